/-
  The reference's Mac of any key; its Short.
  The reference's bit; base 32 by single bits.
  The reference's Unbase32.
  Rows of words as ints; the reference's k; turn and word as quiet calls.
  append to an own row leaves the row's old cells as they were (also where they lay).
-/
import Derived.Test.YteiabaddmclmlaaDoorDRefD
namespace Go.Proofs.YteiabaddmclmlaaDoor
open Go Go.RowKit Go.Shelf
set_option maxHeartbeats 4000000 in
set_option maxRecDepth 100000 in
theorem rmac_long (RS : RSum) (key s M : ByteArray) (h64 : 64 < key.size) (hk0 : key.size ≤ 10000000) (hs : s.size ≤ 10000000) (hM0 : Dg.mac key.data.toList s.data.toList = M.data.toList) (w : World) :
    Calls Tryd.prog 26 #[.string key, .string s] w fun e w' => e = .returned (.string M) ∧ Below w.heap.size w w' := by
  obtain ⟨KD, hKD⟩ : ∃ X : ByteArray, Dg.sha key.data.toList = X.data.toList := ⟨⟨(Dg.sha key.data.toList).toArray⟩, rfl⟩
  have hKs : KD.size = 32 := by rw [Lib.size_eq, ← hKD]; exact Dg.sha_length _
  have hk : KD.size ≤ 64 := by omega
  have C0 := Lib.hid (rsum_to RS key (by omega) KD hKD)
  have hM : Dg.mac KD.data.toList s.data.toList = M.data.toList := by rw [← hKD, ← hM0]; exact Dg.mac_sha _ (by rw [← Lib.size_eq]; exact h64)
  clear hKD hKs hM0
  have hzk := Lib.size_eq KD
  obtain ⟨IB, hIB⟩ : ∃ B : ByteArray, Dg.mk 54 KD.data.toList 64 = B.data.toList := ⟨⟨(Dg.mk 54 KD.data.toList 64).toArray⟩, rfl⟩
  obtain ⟨OB, hOB⟩ : ∃ B : ByteArray, Dg.mk 92 KD.data.toList 64 = B.data.toList := ⟨⟨(Dg.mk 92 KD.data.toList 64).toArray⟩, rfl⟩
  have z1 : IB.size = 64 := by rw [Lib.size_eq, ← hIB, Dg.mk_length]
  have z2 : OB.size = 64 := by rw [Lib.size_eq, ← hOB, Dg.mk_length]
  obtain ⟨DI, hDI⟩ : ∃ B : ByteArray, Dg.sha (IB ++ s).data.toList = B.data.toList := ⟨⟨(Dg.sha (IB ++ s).data.toList).toArray⟩, rfl⟩
  have z3 : DI.size = 32 := by rw [Lib.size_eq, ← hDI, Dg.sha_length]
  have C1 := Lib.hid (rmixed_to KD (by omega) 54 54 rfl IB hIB)
  have C2 := Lib.hid (rsum_to RS (IB ++ s) (by rw [Lib.size_eq, bytes_append, List.length_append, ← Lib.size_eq, ← Lib.size_eq]; omega) DI hDI)
  have C3 := Lib.hid (rmixed_to KD (by omega) 92 92 rfl OB hOB)
  have C4 := Lib.hid (rsum_to RS (OB ++ DI) (by rw [Lib.size_eq, bytes_append, List.length_append, ← Lib.size_eq, ← Lib.size_eq]; omega) M (by rw [bytes_append, ← hOB, ← hDI, bytes_append, ← hIB, ← hM]; exact Dg.mac_mk s.data.toList (by rw [← hzk]; exact hk)))
  have q1 : IB.size ≤ 64 := by omega
  have q2 : OB.size ≤ 64 := by omega
  have q3 : DI.size ≤ 32 := by omega
  clear hzk hIB hOB z1 z2 z3 hDI hM
  go_enter Tryd.func26, Tryd.ntmps26
  go_wp2_with fail
  refine (C0.out w).mono ?_
  rintro e w0 ⟨rfl, hb⟩
  have B0 := Lib.hid hb
  clear hb
  go_wp2_with fail
  refine (C1.out w0).mono ?_
  rintro e w1 ⟨rfl, hb⟩
  have B1 := Lib.hid (B0.out.trans (hb.mono B0.out.size))
  clear hb
  go_wp2_with fail
  refine (C2.out w1).mono ?_
  rintro e w2 ⟨rfl, hb⟩
  have B2 := Lib.hid (B1.out.trans (hb.mono B1.out.size))
  clear hb
  go_wp2_with fail
  refine (C3.out w2).mono ?_
  rintro e w3 ⟨rfl, hb⟩
  have B3 := Lib.hid (B2.out.trans (hb.mono B2.out.size))
  clear hb
  go_wp2_with fail
  refine (C4.out w3).mono ?_
  rintro e w4 ⟨rfl, hb⟩
  have B4 := Lib.hid (B3.out.trans (hb.mono B3.out.size))
  clear hb
  go_wp2
  go_ret
  exact ⟨rfl, B4.out⟩
theorem rmac_any (RS : RSum) (key s M : ByteArray) (hk : key.size ≤ 10000000) (hs : s.size ≤ 10000000) (hM : Dg.mac key.data.toList s.data.toList = M.data.toList) (w : World) :
    Calls Tryd.prog 26 #[.string key, .string s] w fun e w' => e = .returned (.string M) ∧ Below w.heap.size w w' := by
  by_cases h : 64 < key.size
  · exact rmac_long RS key s M h hk hs hM w
  · exact rmac_short RS key s M (by omega) hs hM w
theorem short_parts (l : List UInt8) : Dg.numK l 8 / 16 = Dg.numK l 7 * 16 + (l.getD 7 0).toNat / 16 := by
  have h : Dg.numK l 8 = Dg.numK l 7 * 256 + (l.getD 7 0).toNat := rfl
  rw [h]
  omega
set_option maxHeartbeats 4000000 in
set_option maxRecDepth 100000 in
theorem rshort_any (RS : RSum) (s : ByteArray) (hs : s.size ≤ 100000000) (w : World) :
    Calls Tryd.prog 18 #[.string s] w fun e w' => e = .returned (.int .i64 (Dg.short s.data.toList : Nat)) ∧ Below w.heap.size w w' := by
  obtain ⟨D, hD⟩ : ∃ X : ByteArray, Dg.sha s.data.toList = X.data.toList := ⟨⟨(Dg.sha s.data.toList).toArray⟩, rfl⟩
  have HS := Lib.hid (rsum_to RS s hs D hD w)
  have hsz : D.size = 32 := by rw [Lib.size_eq, ← hD]; exact Dg.sha_length _
  have hF : Dg.short s.data.toList = Dg.numK D.data.toList 7 * 16 + (D.data.toList.getD 7 0).toNat / 16 := by
    unfold Dg.short
    rw [hD, short_parts]
  obtain ⟨R, hR⟩ : ∃ R, Dg.short s.data.toList = R := ⟨_, rfl⟩
  rw [hR] at hF ⊢
  have HF := Lib.hid hF
  have hsz1 : 32 ≤ D.size := by omega
  clear hD hsz hF hR
  go_enter Tryd.func18, Tryd.ntmps18
  go_wp2_with fail
  refine HS.out.mono ?_
  rintro e w1 ⟨rfl, hb⟩
  have HB := Lib.hid hb
  clear hb HS
  go_wp2_with fail
  go_loopw [4, 5] (fun v i wr => ∃ k : Nat, i = .int .i64 k ∧ k ≤ 7 ∧ v = .int .i64 (Dg.numK D.data.toList k : Nat) ∧ wr = w1) (fun _ i _ => 7 - (intOf i).toNat)
  case atStart => exact ⟨0, rfl, by omega, rfl, rfl⟩
  case round =>
    obtain ⟨k, rfl, hk, rfl, rfl⟩ := hrel
    have hb := Dg.numK_lt D.data.toList k
    have hp : 256 ^ k ≤ 256 ^ 7 := Nat.pow_le_pow_right (by omega) (by omega)
    by_cases hlt : k < 7
    · have hN : Dg.numK D.data.toList (k + 1) = Dg.numK D.data.toList k * 256 + (D.data.toList.getD k 0).toNat := rfl
      have hp6 : 256 ^ k ≤ 256 ^ 6 := Nat.pow_le_pow_right (by omega) (by omega)
      obtain ⟨c, hc⟩ : ∃ c, D[k] = c := ⟨_, rfl⟩
      have hc2 : D.data.toList.getD k 0 = c := by
        have hsz2 := Lib.size_eq D
        rw [← hc, List.getD_eq_getElem?_getD, List.getElem?_eq_getElem (by omega)]
        rfl
      rw [hc2] at hN
      obtain ⟨n, hn⟩ : ∃ n, Dg.numK D.data.toList k = n := ⟨_, rfl⟩
      rw [hn] at hN hb ⊢
      have hn7 : n < 281474976710656 := Nat.lt_of_lt_of_le hb hp6
      have HN := Lib.hid (show ∀ P : Nat → Prop, P (n * 256 + c.toNat) → P (Dg.numK D.data.toList (k + 1)) from fun P h => by rw [hN]; exact h)
      have hcl := UInt8.toNat_lt c
      clear hn hN hb hp hc2 hp6
      go_wp2
      go_roundw
      case rel => exact ⟨k + 1, by go_num, by omega, HN.out (fun x => Value.int IntKind.i64 _ = Value.int IntKind.i64 (x : Int)) (by first | rfl | (congr 1) | go_num), by first | rfl | trivial⟩
      case measure => simp [intOf]; omega
    · obtain rfl : k = 7 := by omega
      obtain ⟨c, hc⟩ : ∃ c, D[7] = c := ⟨_, rfl⟩
      have hc2 : D.data.toList.getD 7 0 = c := by
        have hsz2 := Lib.size_eq D
        rw [← hc, List.getD_eq_getElem?_getD, List.getElem?_eq_getElem (by omega)]
        rfl
      have HF' := HF.out
      rw [hc2] at HF'
      obtain ⟨n, hn⟩ : ∃ n, Dg.numK D.data.toList 7 = n := ⟨_, rfl⟩
      rw [hn] at HF' hb ⊢
      have hn7 : n < 72057594037927936 := Nat.lt_of_lt_of_le hb hp
      have hcl := UInt8.toNat_lt c
      have HG := Lib.hid HF'
      clear HF' HF hb hp hn hc2
      go_wp2
      go_ret
      refine ⟨?_, HB.out⟩
      rw [HG.out]
      exact ret_int (by omega)
end Go.Proofs.YteiabaddmclmlaaDoor
namespace Go.Proofs.YteiabaddmclmlaaDoor
open Go Go.RowKit Go.Shelf
namespace Dg
def bn (l : List UInt8) (j : Nat) : Nat := if j < 8 * l.length then (l.getD (j / 8) 0).toNat / 2 ^ (7 - j % 8) % 2 else 0
theorem bn_le (l : List UInt8) (j : Nat) : bn l j ≤ 1 := by unfold bn; split <;> omega
theorem B_at : ∀ (n v i : Nat), i < n → (B n v)[i]? = some (decide (v / 2 ^ (n - 1 - i) % 2 = 1))
  | 0, _, _, h => by omega
  | n + 1, v, i, h => by
    show (B n (v / 2) ++ [decide (v % 2 = 1)])[i]? = _
    by_cases hi : i < n
    · rw [List.getElem?_append_left (by rw [B_length]; exact hi), B_at n (v / 2) i hi]
      have e : n + 1 - 1 - i = (n - 1 - i) + 1 := by omega
      rw [e, Nat.div_div_eq_div_mul, Nat.pow_succ, Nat.mul_comm 2]
    · obtain rfl : i = n := by omega
      rw [List.getElem?_append_right (by rw [B_length]; exact Nat.le_refl _), B_length, Nat.sub_self]
      simp
theorem D8_at : ∀ (l : List UInt8) (j : Nat), j < 8 * l.length → (D8 l)[j]? = some (decide (bn l j = 1))
  | [], j, h => by simp at h
  | c :: l, j, h => by
    rw [D8_cons]
    by_cases hj : j < 8
    · rw [List.getElem?_append_left (by rw [B_length]; exact hj), B_at 8 _ _ hj]
      unfold bn
      rw [if_pos h, show j / 8 = 0 from by omega, Nat.mod_eq_of_lt hj]
      rfl
    · rw [List.getElem?_append_right (by rw [B_length]; omega), B_length, D8_at l (j - 8) (by simp at h; omega)]
      unfold bn
      rw [if_pos h, if_pos (by simp at h; omega), show j / 8 = (j - 8) / 8 + 1 from by omega, show j % 8 = (j - 8) % 8 from by omega]
      rfl
/-- The bits from a place on, zeros behind the end. -/
def pbits (l : List UInt8) (n : Nat) : List Bool := (List.range n).map fun j => decide (bn l j = 1)
theorem pbits_end (l : List UInt8) (n : Nat) (h : 8 * l.length ≤ n) : pbits l n = D8 l ++ List.replicate (n - 8 * l.length) false := by
  apply List.ext_getElem?
  intro j
  unfold pbits
  rw [List.getElem?_map]
  by_cases h1 : j < 8 * l.length
  · rw [List.getElem?_range (by omega), List.getElem?_append_left (by rw [D8_len]; exact h1), D8_at l j h1]
    rfl
  · rw [List.getElem?_append_right (by rw [D8_len]; omega), D8_len]
    by_cases h2 : j < n
    · rw [List.getElem?_range h2, List.getElem?_replicate, if_pos (by omega)]
      have : bn l j = 0 := by unfold bn; rw [if_neg h1]
      simp [this]
    · rw [List.getElem?_eq_none (by simp; omega), List.getElem?_eq_none (by simp; omega)]
      rfl
theorem pbits_next (l : List UInt8) (n : Nat) : pbits l (n + 1) = pbits l n ++ [decide (bn l n = 1)] := by
  unfold pbits
  rw [List.range_succ, List.map_append]
  rfl
/-- The digits that are written are the right ones. -/
theorem b32_by_bits (l out : List UInt8) (n : Nat) (hv : Valid out) (h : D5 out = pbits l n) (h1 : 8 * l.length ≤ n) (h2 : n < 8 * l.length + 5) : out = b32 l := by
  obtain ⟨v', k', hk', a'⟩ := enc_bits l 0 0 (by omega)
  have a' : D5 (b32 l) = D8 l ++ List.replicate k' false := by simpa [B, b32] using a'
  have e1 := congrArg List.length h
  have e2 := congrArg List.length a'
  rw [pbits_end l n h1] at h e1
  simp only [List.length_append, D5_len, D8_len, List.length_replicate] at e1 e2
  have : n - 8 * l.length = k' := by omega
  rw [this] at h
  exact D5_inj _ _ hv v' (h.trans a'.symm)
theorem digit_val (x : Nat) (h : x < 26) : (b32Digits.getD x 0).toNat = 97 + x := by
  have H : ∀ k : Fin 26, (b32Digits.getD k.val 0).toNat = 97 + k.val := by decide +kernel
  exact H ⟨x, h⟩
theorem digit_val2 (x : Nat) (h : 26 ≤ x) (h2 : x < 32) : (b32Digits.getD x 0).toNat = 24 + x := by
  have H : ∀ k : Fin 32, 26 ≤ k.val → (b32Digits.getD k.val 0).toNat = 24 + k.val := by decide +kernel
  exact H ⟨x, h2⟩ h
theorem valid_snoc {h : List UInt8} {x : Nat} (hh : Valid h) (hx : x < 32) : Valid (h ++ [b32Digits.getD x 0]) := fun c hc => by
  rcases List.mem_append.1 hc with hc | hc
  · exact hh c hc
  · rw [List.mem_singleton.1 hc]
    exact ⟨x, b32V_digit x hx⟩
theorem D5_snoc (h : List UInt8) (x : Nat) (hx : x < 32) : D5 (h ++ [b32Digits.getD x 0]) = D5 h ++ B 5 x := by
  unfold D5
  rw [List.flatMap_append, List.flatMap_cons, List.flatMap_nil, List.append_nil, val_digit x hx]
end Dg
set_option maxHeartbeats 1000000 in
set_option maxRecDepth 100000 in
theorem rbit_any (s : ByteArray) (hs : s.size ≤ 10000000) (j : Nat) (hj : j ≤ 100000000) (w : World) :
    Calls Tryd.prog 57 #[.string s, .int .i64 j] w fun e w' => e = .returned (.int .i64 (Dg.bn s.data.toList j : Nat)) ∧ w = w' := by
  have hz := Lib.size_eq s
  by_cases h : j < 8 * s.size
  · have hb : Dg.bn s.data.toList j = (s.data.toList.getD (j / 8) 0).toNat / 2 ^ (7 - j % 8) % 2 := by
      unfold Dg.bn
      rw [if_pos (by omega)]
    obtain ⟨q, hq⟩ : ∃ q, j / 8 = q := ⟨_, rfl⟩
    obtain ⟨r, hr⟩ : ∃ r, 7 - j % 8 = r := ⟨_, rfl⟩
    have hqs : q < s.size := by omega
    obtain ⟨c, hc⟩ : ∃ c, s[q] = c := ⟨_, rfl⟩
    have hc2 : s.data.toList.getD q 0 = c := by
      rw [← hc, List.getD_eq_getElem?_getD, List.getElem?_eq_getElem (by omega)]
      rfl
    rw [hq, hr, hc2] at hb
    have e1 : ((j : Int) / 8) = (q : Int) := by omega
    have e2 : (7 - (j : Int) % 8) = (r : Int) := by omega
    have hcl := UInt8.toNat_lt c
    have hand : bits .and .i64 ((c.toNat : Int) / 2 ^ r) 1 = ((c.toNat / 2 ^ r % 2 : Nat) : Int) := by
      have hlt : c.toNat / 2 ^ r < 256 := Nat.lt_of_le_of_lt (Nat.div_le_self _ _) hcl
      have e : (c.toNat : Int) / 2 ^ r = ((c.toNat / 2 ^ r : Nat) : Int) := by simp
      rw [e]
      obtain ⟨m, hm⟩ : ∃ m, c.toNat / 2 ^ r = m := ⟨_, rfl⟩
      rw [hm] at hlt ⊢
      have H : ∀ k : Fin 256, bits .and .i64 ((k.val : Nat) : Int) 1 = ((k.val % 2 : Nat) : Int) := by decide +kernel
      exact H ⟨m, hlt⟩
    obtain ⟨V, hV⟩ : ∃ V, Dg.bn s.data.toList j = V := ⟨_, rfl⟩
    rw [hV] at hb ⊢
    rw [← hb] at hand
    have r7 : r ≤ 7 := by omega
    clear hV hb hc2 hq hr hz
    go_enter Tryd.func57, Tryd.ntmps57
    go_wp2
    go_ret
    exact ⟨rfl, rfl⟩
  · have hb : Dg.bn s.data.toList j = 0 := by
      unfold Dg.bn
      rw [if_neg (by omega)]
    rw [hb]
    clear hb hz
    go_enter Tryd.func57, Tryd.ntmps57
    go_wp2
    go_ret
    exact ⟨rfl, rfl⟩
set_option maxHeartbeats 4000000 in
set_option maxRecDepth 100000 in
theorem rb32_any (s : ByteArray) (hs : s.size ≤ 10000000) (w : World) :
    Calls Tryd.prog 24 #[.string s] w fun e w' => e = .returned (.string ⟨(Dg.b32 s.data.toList).toArray⟩) ∧ Below w.heap.size w w' := by
  have hz := Lib.hid (Lib.size_eq s)
  go_enter Tryd.func24, Tryd.ntmps24
  go_wp2_with fail
  go_loopw [3, 4] (fun v i wr => ∃ (m at_ : Nat) (vv : Value) (L : List UInt8), vv = v ∧ i = .int .i64 at_ ∧ at_ ≤ 5 * m ∧ 5 * m ≤ at_ ∧ at_ < 8 * s.size + 5 ∧ L.length ≤ m ∧ Hid (Dg.Valid L) ∧ Hid (Dg.D5 L = Dg.pbits s.data.toList at_) ∧ Hid (BytesOf wr w.heap.size vv L) ∧ Hid (Below w.heap.size w wr)) (fun _ i _ => 8 * s.size - (intOf i).toNat)
  case atStart => exact ⟨0, 0, _, [], rfl, rfl, by omega, by omega, by omega, by simp, (fun _ h => by cases h), rfl, World.ownsRow_nil _ _ _ _, Below.refl _ _⟩
  case round =>
    obtain ⟨m, at_, v, L, rfl, rfl, hm1, hm2, ha, hL, hV, hD, hown, hB⟩ := hrel
    by_cases hlt : at_ < 8 * s.size
    · have b0 : (at_ : Int) < 8 * (s.size : Int) := by omega
      go_wp2_with fail
      go_loopw [5, 6] (fun xv iv w2 => ∃ (i x : Nat), xv = .int .i64 x ∧ iv = .int .i64 i ∧ i ≤ 5 ∧ x < 2 ^ i ∧ Hid (Dg.pbits s.data.toList (at_ + i) = Dg.pbits s.data.toList at_ ++ Dg.B i x) ∧ w2 = wr) (fun _ iv _ => 5 - (intOf iv).toNat)
      case atStart => exact ⟨0, 0, rfl, rfl, by omega, by omega, (by first | exact trivial | (show _ = _; simp [Dg.B])), rfl⟩
      case round =>
        obtain ⟨i, x, rfl, rfl, hi, hx, hp, rfl⟩ := hrel
        have hx5 : x < 32 := Nat.lt_of_lt_of_le hx (Nat.pow_le_pow_right (by omega) hi)
        by_cases hi5 : i < 5
        · have hN : Dg.pbits s.data.toList (at_ + (i + 1)) = Dg.pbits s.data.toList at_ ++ Dg.B (i + 1) (2 * x + Dg.bn s.data.toList (at_ + i)) := by
            have hle := Dg.bn_le s.data.toList (at_ + i)
            rw [← Nat.add_assoc, Dg.pbits_next, hp.out, List.append_assoc]
            congr 1
            show _ = Dg.B i ((2 * x + _) / 2) ++ [decide ((2 * x + _) % 2 = 1)]
            rw [show (2 * x + Dg.bn s.data.toList (at_ + i)) / 2 = x from by omega]
            congr 2
            apply decide_eq_decide.2
            omega
          have hle := Dg.bn_le s.data.toList (at_ + i)
          obtain ⟨j, hj⟩ : ∃ j, at_ + i = j := ⟨_, rfl⟩
          have HBit := Lib.hid (fun w0 : World => rbit_any s hs j (by omega) w0)
          rw [hj] at hN hle
          obtain ⟨b, hb⟩ : ∃ b, Dg.bn s.data.toList j = b := ⟨_, rfl⟩
          rw [hb] at HBit hN hle
          have HN := Lib.hid hN
          have e1 : ((at_ : Int) + (i : Int)) = (j : Int) := by omega
          have hx2 : 2 * x + b < 2 ^ (i + 1) := by rw [Nat.pow_succ]; omega
          clear hN hb hj hp
          go_wp2_with fail
          refine (HBit.out _).mono ?_
          rintro e w5 ⟨rfl, rfl⟩
          go_wp2
          go_roundw
          case rel => exact ⟨i + 1, 2 * x + b, by go_num, by go_num, by omega, hx2, HN.out, by first | rfl | trivial⟩
          case measure => simp [intOf]; omega
        · obtain rfl : i = 5 := by omega
          have HV2 := Lib.hid (Dg.valid_snoc hV.out hx5)
          have HD2 := Lib.hid (show Dg.D5 (L ++ [Dg.b32Digits.getD x 0]) = Dg.pbits s.data.toList (at_ + 5) by rw [Dg.D5_snoc L x hx5, hD.out, hp.out])
          have d1 := Dg.digit_val x
          have d2 := Dg.digit_val2 x
          obtain ⟨z, hzd⟩ : ∃ z, Dg.b32Digits.getD x 0 = z := ⟨_, rfl⟩
          rw [hzd] at HV2 HD2 d1 d2
          have hzl := UInt8.toNat_lt z
          clear hzd hp hV hD
          by_cases h26 : x < 26
          · have dz : (97 + (x : Int)) = (z.toNat : Int) := by have := d1 h26; omega
            clear d1 d2
            go_wp2_with (at_builtin; refine wpList_append_bytes (by rfl) (.tmp 28) (.tmp 32) (by rfl) w.heap.size _ L (by rfl) (hown.out.alloc _) ⟨wr.heap.size, 0, none⟩ 1 1 [z] (by rfl) rfl (cells_new wr (bv [z]) _) (by omega) (Nat.le_trans hB.out.size (by first | exact Nat.le_succ _ | simp)) ?_; intro v1 w3 hown3 hgrow; have HO3 := Lib.hid hown3; have HB3 := Lib.hid (below_grown (below_alloc hB.out (Nat.le_refl _) _) (hown.out.alloc _) hgrow (Nat.le_refl _) (Nat.le_refl _)); clear hown3 hgrow)
            go_roundw
            case rel => exact ⟨m + 1, at_ + 5, v1, L ++ [z], rfl, by go_num, by omega, by omega, by omega, by rw [List.length_append, List.length_singleton]; omega, HV2.out, HD2.out, HO3.out, HB3.out⟩
            case measure => simp [intOf]; omega
          · have dz : (50 + (x : Int) - 26) = (z.toNat : Int) := by have := d2 (by omega) hx5; omega
            clear d1 d2
            go_wp2_with (at_builtin; refine wpList_append_bytes (by rfl) (.tmp 34) (.tmp 39) (by rfl) w.heap.size _ L (by rfl) (hown.out.alloc _) ⟨wr.heap.size, 0, none⟩ 1 1 [z] (by rfl) rfl (cells_new wr (bv [z]) _) (by omega) (Nat.le_trans hB.out.size (by first | exact Nat.le_succ _ | simp)) ?_; intro v1 w3 hown3 hgrow; have HO3 := Lib.hid hown3; have HB3 := Lib.hid (below_grown (below_alloc hB.out (Nat.le_refl _) _) (hown.out.alloc _) hgrow (Nat.le_refl _) (Nat.le_refl _)); clear hown3 hgrow)
            go_roundw
            case rel => exact ⟨m + 1, at_ + 5, v1, L ++ [z], rfl, by go_num, by omega, by omega, by omega, by rw [List.length_append, List.length_singleton]; omega, HV2.out, HD2.out, HO3.out, HB3.out⟩
            case measure => simp [intOf]; omega
    · have hE := Dg.b32_by_bits s.data.toList L at_ hV.out hD.out (by rw [← hz.out]; omega) (by rw [← hz.out]; omega)
      have HE := Lib.hid (show ∀ P : List UInt8 → Prop, P (Dg.b32 s.data.toList) → P L from fun P h => by rw [hE]; exact h)
      have hcv := hown.out.back
      clear hE hV hD
      go_wp2
      go_ret
      exact ⟨HE.out (fun t => Ending.returned (.string ⟨t.toArray⟩) = .returned (.string ⟨(Dg.b32 s.data.toList).toArray⟩)) rfl, hB.out⟩
end Go.Proofs.YteiabaddmclmlaaDoor
namespace Go.Proofs.YteiabaddmclmlaaDoor
open Go Go.RowKit Go.Shelf
namespace Dg
/-- As 'dec', but what is left at the end is not looked at. -/
def dec2 : Nat → Nat → List UInt8 → Option (List UInt8)
  | _, _, [] => some []
  | g, size, c :: l =>
    match b32V c with
    | none => none
    | some d => if 3 ≤ size then (dec2 ((g * 32 + d) % 2 ^ (size - 3)) (size - 3) l).map (UInt8.ofNat ((g * 32 + d) / 2 ^ (size - 3)) :: ·) else dec2 (g * 32 + d) (size + 5) l
theorem dec_dec2 : ∀ (l : List UInt8) (g s : Nat) (t : List UInt8), dec g s l = some t → dec2 g s l = some t
  | [], g, s, t, h => by
    unfold dec at h
    by_cases hc : 5 ≤ s ∨ g % 2 ^ s ≠ 0
    · rw [if_pos hc] at h; cases h
    · rw [if_neg hc] at h; exact h
  | c :: l, g, s, t, h => by
    unfold dec at h
    unfold dec2
    cases hv : b32V c with
    | none => rw [hv] at h; cases h
    | some d =>
      rw [hv] at h
      simp only at h ⊢
      by_cases h3 : 3 ≤ s
      · rw [if_pos h3] at h ⊢
        obtain ⟨u, hu, rfl⟩ := Option.map_eq_some_iff.1 h
        rw [dec_dec2 l _ _ u hu]
        rfl
      · rw [if_neg h3] at h ⊢
        exact dec_dec2 l _ _ t h
theorem dec2_none {c : UInt8} (h : b32V c = none) (g s : Nat) (l : List UInt8) : dec2 g s (c :: l) = none := by
  unfold dec2; rw [h]
theorem dec2_take {c : UInt8} {d : Nat} (h : b32V c = some d) (g s : Nat) (l : List UInt8) (h3 : 3 ≤ s) : dec2 g s (c :: l) = (dec2 ((g * 32 + d) % 2 ^ (s - 3)) (s - 3) l).map (UInt8.ofNat ((g * 32 + d) / 2 ^ (s - 3)) :: ·) := by
  conv => lhs; unfold dec2
  rw [h]
  simp only
  rw [if_pos h3]
theorem dec2_wait {c : UInt8} {d : Nat} (h : b32V c = some d) (g s : Nat) (l : List UInt8) (h3 : ¬ 3 ≤ s) : dec2 g s (c :: l) = dec2 (g * 32 + d) (s + 5) l := by
  conv => lhs; unfold dec2
  rw [h]
  simp only
  rw [if_neg h3]
theorem unb32_by_dec2_none {l : List UInt8} (h : dec2 0 0 l = none) : unb32 l = none := by
  cases hu : unb32 l with
  | none => rfl
  | some t => have := dec_dec2 l 0 0 t hu; rw [h] at this; cases this
theorem unb32_by_dec2 {l L : List UInt8} (h : dec2 0 0 l = some L) (hb : b32 L ≠ l) : unb32 l = none := by
  cases hu : unb32 l with
  | none => rfl
  | some t =>
    have h1 := dec_dec2 l 0 0 t hu
    rw [h] at h1
    injection h1 with h1
    subst h1
    exact absurd (b32_unb32 l L hu) hb
theorem and_mask (N m : Nat) (hN : N < 9223372036854775808) (hm : m ≤ 30) : bits .and .i64 (N : Int) (wrap64 (wrap64 ((2 : Int) ^ m) - 1)) = ((N % 2 ^ m : Nat) : Int) := by
  have hp : 2 ^ m ≤ 2 ^ 30 := Nat.pow_le_pow_right (by omega) hm
  have h1 : 1 ≤ 2 ^ m := Nat.one_le_two_pow
  have e0 : (2 : Int) ^ m - 1 = ((2 ^ m - 1 : Nat) : Int) := by
    rw [Int.ofNat_sub h1]; simp
  have e1 : wrap64 ((2 : Int) ^ m) = (2 : Int) ^ m := by unfold wrap64; omega
  have e : wrap64 (wrap64 ((2 : Int) ^ m) - 1) = ((2 ^ m - 1 : Nat) : Int) := by rw [e1, e0]; unfold wrap64; omega
  have b1 : (BitVec.ofInt 64 (N : Int)).toNat = N := by rw [BitVec.ofInt_natCast, BitVec.toNat_ofNat]; exact Nat.mod_eq_of_lt (by omega)
  have b2 : (BitVec.ofInt 64 ((2 ^ m - 1 : Nat) : Int)).toNat = 2 ^ m - 1 := by rw [BitVec.ofInt_natCast, BitVec.toNat_ofNat]; exact Nat.mod_eq_of_lt (by omega)
  rw [e]
  show IntKind.i64.wrap ((BitVec.ofInt 64 (N : Int) &&& BitVec.ofInt 64 ((2 ^ m - 1 : Nat) : Int)).toNat : Int) = _
  rw [BitVec.toNat_and, b1, b2, Nat.and_two_pow_sub_one_eq_mod]
  have : N % 2 ^ m < 2 ^ m := Nat.mod_lt _ (by omega)
  exact IntWalk.i64_in _ (by omega)
end Dg
theorem rb32_to (s : ByteArray) (hs : s.size ≤ 10000000) (X : ByteArray) (hX : Dg.b32 s.data.toList = X.data.toList) (w : World) :
    Calls Tryd.prog 24 #[.string s] w fun e w' => e = .returned (.string X) ∧ Below w.heap.size w w' :=
  (rb32_any s hs w).mono fun e w' ⟨h1, h2⟩ => ⟨by rw [h1, hX, str_back], h2⟩
set_option maxHeartbeats 8000000 in
set_option maxRecDepth 100000 in
theorem runb32_any (s : ByteArray) (hs : s.size ≤ 1000000) (w : World) :
    Calls Tryd.prog 14 #[.string s] w fun e w' => e = .returned (.tuple #[.string ⟨((Dg.unb32 s.data.toList).getD []).toArray⟩, .bool (Dg.unb32 s.data.toList).isSome]) ∧ Below w.heap.size w w' := by
  have hz := Lib.hid (Lib.size_eq s)
  obtain ⟨U, hU⟩ : ∃ U, Dg.unb32 s.data.toList = U := ⟨_, rfl⟩
  rw [hU]
  have HU := Lib.hid (show ∀ P : Option (List UInt8) → Prop, (P (Dg.unb32 s.data.toList) ↔ P U) from fun P => by rw [hU])
  clear hU
  go_enter Tryd.func14, Tryd.ntmps14
  go_wp2_with fail
  go_loopw [4, 5, 6, 7] (fun v gv sv i wr => ∃ (k size G : Nat) (vv : Value) (L : List UInt8), vv = v ∧ gv = .int .i64 G ∧ sv = .int .i64 size ∧ i = .int .i64 k ∧ k ≤ s.size ∧ size < 8 ∧ G < 2 ^ size ∧ L.length ≤ k ∧
      Hid (Dg.dec2 0 0 s.data.toList = (Dg.dec2 G size (s.data.toList.drop k)).map (L ++ ·)) ∧ Hid (BytesOf wr w.heap.size vv L) ∧ Hid (Below w.heap.size w wr)) (fun _ _ _ i _ => s.size - (intOf i).toNat)
  case atStart => exact ⟨0, 0, 0, _, [], rfl, rfl, rfl, rfl, by omega, by omega, by omega, by simp, (by first | exact trivial | (show _ = _; simp)), World.ownsRow_nil _ _ _ _, Below.refl _ _⟩
  case round =>
    obtain ⟨k, size, G, v, L, rfl, rfl, rfl, rfl, hk, hsz, hG, hL, hinv, hown, hB⟩ := hrel
    have hG8 : G < 128 := Nat.lt_of_lt_of_le hG (Nat.pow_le_pow_right (by omega) (show size ≤ 7 by omega))
    by_cases hlt : k < s.size
    · have b0 : (k : Int) < (s.size : Int) := by omega
      obtain ⟨c, hc⟩ : ∃ c, s[k] = c := ⟨_, rfl⟩
      have hd : s.data.toList.drop k = c :: s.data.toList.drop (k + 1) := by
        rw [List.drop_eq_getElem_cons (by rw [← hz.out]; exact hlt), ← hc]
        rfl
      have hE := hinv.out
      rw [hd] at hE
      have HE := Lib.hid hE
      have hcl := UInt8.toNat_lt c
      clear hinv hd hE
      by_cases a1 : 97 ≤ c.toNat
      · by_cases a2 : c.toNat ≤ 122
        · have a3 : ¬ c.toNat ≤ 55 := by omega
          have a4 : 50 ≤ c.toNat := by omega
          obtain ⟨d, hdd⟩ : ∃ d, c.toNat - 97 = d := ⟨_, rfl⟩
          have hv : Dg.b32V c = some d := by unfold Dg.b32V; rw [if_pos ⟨a1, a2⟩]; rw [hdd]
          have hdi : ((c.toNat : Int) - 97) = (d : Int) := by omega
          have hd32 := (Dg.b32V_some hv).1
          obtain ⟨N, hN⟩ : ∃ N, G * 32 + d = N := ⟨_, rfl⟩
          have hNi : (32 * (G : Int) + (d : Int)) = (N : Int) := by omega
          have hNl : N < 4096 := by omega
          by_cases h3 : 3 ≤ size
          · have hE := HE.out
            rw [Dg.dec2_take hv G size _ h3, hN] at hE
            obtain ⟨m, hm'⟩ : ∃ m, size - 3 = m := ⟨_, rfl⟩
            rw [hm'] at hE
            have hq : N / 2 ^ m < 256 := by
              rw [Nat.div_lt_iff_lt_mul (Nat.two_pow_pos _)]
              have : 2 ^ size = 2 ^ m * 8 := by rw [show (8 : Nat) = 2 ^ 3 from rfl, ← Nat.pow_add]; congr 1; omega
              omega
            have hzm : ((N : Int) / 2 ^ m) = ((UInt8.ofNat (N / 2 ^ m)).toNat : Int) := by
              rw [UInt8.toNat_ofNat', Nat.mod_eq_of_lt hq]
              simp
            have hmask := Dg.and_mask N m (by omega) (by omega)
            have hml : N % 2 ^ m < 2 ^ m := Nat.mod_lt _ (Nat.two_pow_pos _)
            obtain ⟨z, hzz⟩ : ∃ z, UInt8.ofNat (N / 2 ^ m) = z := ⟨_, rfl⟩
            rw [hzz] at hE hzm
            obtain ⟨G', hG'⟩ : ∃ G', N % 2 ^ m = G' := ⟨_, rfl⟩
            rw [hG'] at hE hmask hml
            have HE2 := Lib.hid hE
            have e1 : IntKind.i64.wrap ((size : Int) + 5 - 8) = (m : Int) := by rw [IntWalk.i64_in _ (by omega)]; omega
            have hm1 : m + 3 ≤ size := by omega
            have hzl := UInt8.toNat_lt z
            clear hE hm' hzz hG' HE hv hq
            go_wp2_with (at_builtin; refine wpList_append_bytes (by rfl) (.tmp 59) (.tmp 64) (by rfl) w.heap.size _ L (by rfl) (hown.out.alloc _) ⟨wr.heap.size, 0, none⟩ 1 1 [z] (by rfl) rfl (cells_new wr (bv [z]) _) (by omega) (Nat.le_trans hB.out.size (by first | exact Nat.le_succ _ | simp)) ?_; intro v1 w3 hown3 hgrow; have HO3 := Lib.hid hown3; have HB3 := Lib.hid (below_grown (below_alloc hB.out (Nat.le_refl _) _) (hown.out.alloc _) hgrow (Nat.le_refl _) (Nat.le_refl _)); clear hown3 hgrow)
            go_roundw
            case rel => exact ⟨k + 1, m, G', v1, L ++ [z], rfl, rfl, by first | rfl | go_num, by go_num, by omega, by omega, hml, by rw [List.length_append, List.length_singleton]; omega, (by show _ = _; rw [HE2.out, Option.map_map]; congr 1; funext t; simp), HO3.out, HB3.out⟩
            case measure => simp [intOf]; omega
          · have hE := HE.out
            rw [Dg.dec2_wait hv G size _ h3, hN] at hE
            have HE2 := Lib.hid hE
            have hNs : N < 2 ^ (size + 5) := by
              have : 2 ^ (size + 5) = 2 ^ size * 32 := by rw [Nat.pow_add]
              omega
            clear hE HE hv
            go_wp2
            go_roundw
            case rel => exact ⟨k + 1, size + 5, N, v, L, rfl, by first | rfl | go_num, by first | rfl | go_num, by go_num, by omega, by omega, hNs, by omega, HE2.out, hown.out, hB.out⟩
            case measure => simp [intOf]; omega
        · have a3 : ¬ c.toNat ≤ 55 := by omega
          have a4 : 50 ≤ c.toNat := by omega
          have hv : Dg.b32V c = none := by unfold Dg.b32V; rw [if_neg (fun h => a2 h.2), if_neg (fun h => a3 h.2)]
          have hUn : U = none := (HU.out (fun u => u = none)).1 (Dg.unb32_by_dec2_none (by rw [HE.out, Dg.dec2_none hv]; rfl))
          clear HE hv
          go_wp2
          go_ret2
          exact ⟨by first | rfl | (rw [hUn]; rfl), hB.out⟩
      · by_cases a4 : 50 ≤ c.toNat
        · by_cases a3 : c.toNat ≤ 55
          · obtain ⟨d, hdd⟩ : ∃ d, c.toNat - 24 = d := ⟨_, rfl⟩
            have hv : Dg.b32V c = some d := by unfold Dg.b32V; rw [if_neg (fun h => a1 h.1), if_pos ⟨a4, a3⟩]; rw [hdd]
            have hdi : ((c.toNat : Int) - 50 + 26) = (d : Int) := by omega
            have hd32 := (Dg.b32V_some hv).1
            obtain ⟨N, hN⟩ : ∃ N, G * 32 + d = N := ⟨_, rfl⟩
            have hNi : (32 * (G : Int) + (d : Int)) = (N : Int) := by omega
            have hNl : N < 4096 := by omega
            by_cases h3 : 3 ≤ size
            · have hE := HE.out
              rw [Dg.dec2_take hv G size _ h3, hN] at hE
              obtain ⟨m, hm'⟩ : ∃ m, size - 3 = m := ⟨_, rfl⟩
              rw [hm'] at hE
              have hq : N / 2 ^ m < 256 := by
                rw [Nat.div_lt_iff_lt_mul (Nat.two_pow_pos _)]
                have : 2 ^ size = 2 ^ m * 8 := by rw [show (8 : Nat) = 2 ^ 3 from rfl, ← Nat.pow_add]; congr 1; omega
                omega
              have hzm : ((N : Int) / 2 ^ m) = ((UInt8.ofNat (N / 2 ^ m)).toNat : Int) := by
                rw [UInt8.toNat_ofNat', Nat.mod_eq_of_lt hq]
                simp
              have hmask := Dg.and_mask N m (by omega) (by omega)
              have hml : N % 2 ^ m < 2 ^ m := Nat.mod_lt _ (Nat.two_pow_pos _)
              obtain ⟨z, hzz⟩ : ∃ z, UInt8.ofNat (N / 2 ^ m) = z := ⟨_, rfl⟩
              rw [hzz] at hE hzm
              obtain ⟨G', hG'⟩ : ∃ G', N % 2 ^ m = G' := ⟨_, rfl⟩
              rw [hG'] at hE hmask hml
              have HE2 := Lib.hid hE
              have e1 : IntKind.i64.wrap ((size : Int) + 5 - 8) = (m : Int) := by rw [IntWalk.i64_in _ (by omega)]; omega
              have hm1 : m + 3 ≤ size := by omega
              have hzl := UInt8.toNat_lt z
              clear hE hm' hzz hG' HE hv hq
              go_wp2_with (at_builtin; refine wpList_append_bytes (by rfl) (.tmp 59) (.tmp 64) (by rfl) w.heap.size _ L (by rfl) (hown.out.alloc _) ⟨wr.heap.size, 0, none⟩ 1 1 [z] (by rfl) rfl (cells_new wr (bv [z]) _) (by omega) (Nat.le_trans hB.out.size (by first | exact Nat.le_succ _ | simp)) ?_; intro v1 w3 hown3 hgrow; have HO3 := Lib.hid hown3; have HB3 := Lib.hid (below_grown (below_alloc hB.out (Nat.le_refl _) _) (hown.out.alloc _) hgrow (Nat.le_refl _) (Nat.le_refl _)); clear hown3 hgrow)
              go_roundw
              case rel => exact ⟨k + 1, m, G', v1, L ++ [z], rfl, rfl, by first | rfl | go_num, by go_num, by omega, by omega, hml, by rw [List.length_append, List.length_singleton]; omega, (by show _ = _; rw [HE2.out, Option.map_map]; congr 1; funext t; simp), HO3.out, HB3.out⟩
              case measure => simp [intOf]; omega
            · have hE := HE.out
              rw [Dg.dec2_wait hv G size _ h3, hN] at hE
              have HE2 := Lib.hid hE
              have hNs : N < 2 ^ (size + 5) := by
                have : 2 ^ (size + 5) = 2 ^ size * 32 := by rw [Nat.pow_add]
                omega
              clear hE HE hv
              go_wp2
              go_roundw
              case rel => exact ⟨k + 1, size + 5, N, v, L, rfl, by first | rfl | go_num, by first | rfl | go_num, by go_num, by omega, by omega, hNs, by omega, HE2.out, hown.out, hB.out⟩
              case measure => simp [intOf]; omega
          · have hv : Dg.b32V c = none := by unfold Dg.b32V; rw [if_neg (fun h => a1 h.1), if_neg (fun h => a3 h.2)]
            have hUn : U = none := (HU.out (fun u => u = none)).1 (Dg.unb32_by_dec2_none (by rw [HE.out, Dg.dec2_none hv]; rfl))
            clear HE hv
            go_wp2
            go_ret2
            exact ⟨by first | rfl | (rw [hUn]; rfl), hB.out⟩
        · have hv : Dg.b32V c = none := by unfold Dg.b32V; rw [if_neg (fun h => a1 h.1), if_neg (fun h => a4 h.1)]
          have hUn : U = none := (HU.out (fun u => u = none)).1 (Dg.unb32_by_dec2_none (by rw [HE.out, Dg.dec2_none hv]; rfl))
          clear HE hv
          go_wp2
          go_ret2
          exact ⟨by first | rfl | (rw [hUn]; rfl), hB.out⟩
    · obtain rfl : k = s.size := by omega
      have hE := hinv.out
      rw [List.drop_of_length_le (by rw [← hz.out]; exact Nat.le_refl _)] at hE
      have hE2 : Dg.dec2 0 0 s.data.toList = some L := by rw [hE]; simp [Dg.dec2]
      have hcv := hown.out.back
      obtain ⟨LB, hLB⟩ : ∃ X : ByteArray, L = X.data.toList := ⟨⟨L.toArray⟩, rfl⟩
      obtain ⟨Bk, hBk⟩ : ∃ X : ByteArray, Dg.b32 L = X.data.toList := ⟨⟨(Dg.b32 L).toArray⟩, rfl⟩
      have hst : (⟨L.toArray⟩ : ByteArray) = LB := by rw [hLB, str_back]
      have hLs : LB.size ≤ 1000000 := by rw [Lib.size_eq, ← hLB]; omega
      have CB := Lib.hid (rb32_to LB (by omega) Bk (by rw [← hLB]; exact hBk))
      by_cases hb : Bk = s
      · have hUs : U = some L := (HU.out (fun u => u = some L)).1 (by
          have := Dg.unb32_b32 L
          rw [hBk, hb] at this
          exact this)
        have hUg : (⟨(U.getD []).toArray⟩ : ByteArray) = LB ∧ U.isSome = true := by rw [hUs]; exact ⟨hst, rfl⟩
        have HUg := Lib.hid hUg
        subst hb
        rw [hst] at hcv
        have HcL := Lib.hid (fun (w' : World) (h : Below wr.heap.size wr w') => (by have := (hown.out.below h).back; rw [hst] at this; exact this : (convert 43 9 v).run Tryd.prog w' = .ok (.string LB) w'))
        clear hE hE2 hinv hLB hBk hst hLs hUs hUg
        go_wp2_with fail
        refine (CB.out wr).mono ?_
        rintro e w5 ⟨rfl, hb5⟩
        have hcv5 := HcL.out w5 hb5
        have HB5 := Lib.hid (hB.out.trans (hb5.mono hB.out.size))
        clear hb5
        go_wp2
        go_ret2
        exact ⟨by rw [HUg.out.1, HUg.out.2]; rfl, HB5.out⟩
      · have hne : Dg.b32 L ≠ s.data.toList := fun e => hb (by rw [← str_back Bk, ← hBk, e, str_back])
        have hUn : U = none := (HU.out (fun u => u = none)).1 (Dg.unb32_by_dec2 hE2 hne)
        have hse : ¬ (Bk.toList = s.toList) := fun e => by
          rw [ByteArray.toList_eq, ByteArray.toList_eq] at e
          exact hb (by rw [← str_back Bk, e, str_back])
        have hse2 : (Bk.toList == s.toList) = false := beq_eq_false_iff_ne.2 hse
        have hse3 : (Bk.toList != s.toList) = true := by simpa using hse
        rw [hst] at hcv
        clear hE hE2 hinv hLB hBk hst hLs hne
        go_wp2_with fail
        refine (CB.out wr).mono ?_
        rintro e w5 ⟨rfl, hb5⟩
        have HB5 := Lib.hid (hB.out.trans (hb5.mono hB.out.size))
        clear hb5
        go_wp2
        go_ret2
        exact ⟨by first | rfl | (rw [hUn]; rfl), HB5.out⟩
end Go.Proofs.YteiabaddmclmlaaDoor
namespace Go.Proofs.YteiabaddmclmlaaDoor
open Go Go.RowKit Go.Shelf
def iv (l : List Dg.W32) : List Value := l.map fun x => .int .i64 (x.toNat : Int)
theorem iv_length (l : List Dg.W32) : (iv l).length = l.length := by simp [iv]
theorem iv_at {l : List Dg.W32} {j : Nat} (h : j < l.length) : (iv l)[j]? = some (.int .i64 ((l.getD j 0).toNat : Int)) := by simp [iv, h]
theorem iv_cells (l : List Dg.W32) : ∀ v ∈ iv l, v.oneCell' = true := fun v hv => by
  obtain ⟨b, _, rfl⟩ := List.mem_map.1 hv
  rfl
theorem infoI : (Tryd.prog.info? 3).map (fun i => (i.zero, i.size, i.bytes)) = some (some (.int .i64 0), 1, 8) := by kernel_rfl
/-- Words in block g. -/
structure IR (w : World) (g : Nat) (l : List Dg.W32) : Prop where
  cell : ∀ j, j < l.length → w.cell? ⟨g, j, none⟩ = some (.int .i64 ((l.getD j 0).toNat : Int))
  lt : g < w.heap.size
theorem IR.below {w w' : World} {g : Nat} {l : List Dg.W32} (h : IR w g l) (hb : Below w.heap.size w w') : IR w' g l :=
  ⟨fun j hj => (hb.cell (p := ⟨g, j, none⟩) h.lt).trans (h.cell j hj), Nat.lt_of_lt_of_le h.lt hb.size⟩
theorem IR.drews {w : World} {g : Nat} {l : List Dg.W32} (h : IR w g l) (n : Nat) : IR (w.drewN n) g l := ⟨h.cell, h.lt⟩
theorem IR.made (w : World) (l : List Dg.W32) (t : TypeId) : IR (w.alloc (.cells (iv l).toArray t)) w.heap.size l :=
  ⟨fun j hj => (Blk.made w (iv l).toArray t).cell (by simpa using iv_at hj), by rw [alloc_size]; omega⟩
/-- A value that holds just these words, the call's own. -/
def IOwn (w : World) (base : Nat) (v : Value) (l : List Dg.W32) : Prop := w.ownsRow base 3 1 v l.length (iv l)
theorem IOwn.row {w : World} {base : Nat} {v : Value} {l : List Dg.W32} (h : IOwn w base v l) (hn : 0 < l.length) : ∃ g cap, v = .slice (some ⟨g, 0, none⟩) l.length cap ∧ base ≤ g ∧ IR w g l := by
  obtain ⟨g, cap, hv, hb, hg, hc⟩ := row_some h hn
  exact ⟨g, cap, hv, hb, ⟨fun j hj => hc j _ (iv_at hj), hg⟩⟩
theorem IOwn.alloc {w : World} {base : Nat} {v : Value} {l : List Dg.W32} (h : IOwn w base v l) (o : Obj) : IOwn (w.alloc o) base v l := World.ownsRow.alloc h o
theorem IOwn.drew {w : World} {base : Nat} {v : Value} {l : List Dg.W32} (h : IOwn w base v l) : IOwn w.drew base v l := h
theorem IOwn.drews {w : World} {base : Nat} {v : Value} {l : List Dg.W32} (h : IOwn w base v l) (n : Nat) : IOwn (w.drewN n) base v l := h
theorem IOwn.allocDrew {w : World} {base : Nat} {v : Value} {l : List Dg.W32} (h : IOwn w base v l) (o : Obj) : IOwn (w.alloc o).drew base v l := (h.alloc o).drew
section
variable {w : World} {ops : Array Oper} {o : Oper} {a : Act} {Q : Exit → Act → World → Prop}
theorem wp_append_ints {K : Act → World → Prop} (s x : Operand) (ho : o.op = .call { callee := .builtin .append, args := #[s, x], argTypes := #[57, 57] })
    (base : Nat) (v : Value) (L : List Dg.W32) (hs : a.eval s = v) (hown : IOwn w base v L) (ad : Addr) (m c : Nat) (news : List Dg.W32) (hx : a.eval x = .slice (some ad) m c) (hl : news.length = m)
    (hnews : ∀ j u, (iv news)[j]? = some u → w.cell? (ad.add j) = some u) (hbig : L.length + m ≤ 1000000000) (hbase : base ≤ w.heap.size)
    (h : ∀ v' w', IOwn w' base v' (L ++ news) → w.grownBy w' v.ownBlock → K (a.put o.dst v') w') : o.wp Tryd.prog a w K Q := by
  obtain ⟨i0, hi, hz0, hz1, hz2⟩ := info_parts infoI
  refine wp_append_own w s x 57 ho base 3 i0 (.int .i64 0) 1 8 Tryd.underlying57 hi hz0 hz1 hz2 rfl (by omega) v L.length (iv L) hs hown ad m c (iv news) hx (by rw [iv_length, hl]; omega) hnews (iv_cells _) (by unfold maxLen; omega) (by omega) hbase fun v' w' h2 h3 _ => h v' w' ?_ h3
  have e1 : (L ++ news).length = L.length + m := by rw [List.length_append, hl]
  have e2 : iv (L ++ news) = iv L ++ iv news := by simp [iv]
  unfold IOwn
  rw [e1, e2]
  exact h2
theorem step_append_ints {K : Act → World → Prop} {E : Prop} (hgd : o.guard = none) (s x : Operand) (ho : o.op = .call { callee := .builtin .append, args := #[s, x], argTypes := #[57, 57] })
    (base : Nat) (v : Value) (L : List Dg.W32) (hs : a.eval s = v) (hown : IOwn w base v L) (ad : Addr) (m c : Nat) (news : List Dg.W32) (hx : a.eval x = .slice (some ad) m c) (hl : news.length = m)
    (hnews : ∀ j u, (iv news)[j]? = some u → w.cell? (ad.add j) = some u) (hbig : L.length + m ≤ 1000000000) (hbase : base ≤ w.heap.size)
    (h : ∀ v' w', IOwn w' base v' (L ++ news) → w.grownBy w' v.ownBlock → K (a.put o.dst v') w') : if Region.wanted o (yielded ops a.tmps) = true then Oper.wp Tryd.prog o a w K Q else E := by
  have hw : Region.wanted o (yielded ops a.tmps) = true := by simp [Region.wanted, hgd]
  rw [if_pos hw]
  exact wp_append_ints s x ho base v L hs hown ad m c news hx hl hnews hbig hbase h
theorem wpList_append_ints {rest : List Oper} (hgd : o.guard = none) (s x : Operand) (ho : o.op = .call { callee := .builtin .append, args := #[s, x], argTypes := #[57, 57] })
    (base : Nat) (v : Value) (L : List Dg.W32) (hs : a.eval s = v) (hown : IOwn w base v L) (ad : Addr) (m c : Nat) (news : List Dg.W32) (hx : a.eval x = .slice (some ad) m c) (hl : news.length = m)
    (hnews : ∀ j u, (iv news)[j]? = some u → w.cell? (ad.add j) = some u) (hbig : L.length + m ≤ 1000000000) (hbase : base ≤ w.heap.size)
    (h : ∀ v' w', IOwn w' base v' (L ++ news) → w.grownBy w' v.ownBlock → wpList Tryd.prog ops Q rest (a.put o.dst v') w') : wpList Tryd.prog ops Q (o :: rest) a w :=
  wpList_plain hgd fun _ hK => wp_append_ints s x ho base v L hs hown ad m c news hx hl hnews hbig hbase fun v' w' h2 h3 => hK _ _ (h v' w' h2 h3)
end
/-- The reference's table of constants: a new row. -/
theorem rk_any (w : World) : Calls Tryd.prog 76 #[] w fun e w' => e = .returned (.slice (some ⟨w.heap.size, 0, none⟩) 64 64) ∧ IR w' w.heap.size Dg.K ∧ Below w.heap.size w w' := by
  have HI := Lib.hid (IR.made w Dg.K 3)
  have HB := Lib.hid (below_alloc (Below.refl w.heap.size w) (Nat.le_refl _) (.cells (iv Dg.K).toArray 3))
  go_enter Tryd.func76, Tryd.ntmps76
  go_wp2
  go_ret
  exact ⟨rfl, HI.out, HB.out⟩
theorem rturn_quiet (x : Dg.W32) (k : Int) (h1 : 1 ≤ k) (h2 : k ≤ 31) (n : Nat) (w : World) :
    Calls Tryd.prog 74 #[.int .i64 x.toNat, .int .i64 k] (w.drewN n) fun e w' => e = .returned (.int .i64 (Dg.ror x k.toNat).toNat) ∧ ∃ m, w' = w.drewN m := by
  obtain ⟨j, rfl⟩ : ∃ j : Nat, k = (j : Int) := ⟨k.toNat, by omega⟩
  exact Calls.quiet_of (rturn_any x j (by omega) (by omega) _)
theorem rturn_at (x : Dg.W32) (k : Int) (j : Nat) (hk : k = (j : Int)) (h1 : 1 ≤ j) (h2 : j ≤ 31) (R : Dg.W32) (hR : Dg.ror x j = R) (w : World) :
    Calls Tryd.prog 74 #[.int .i64 x.toNat, .int .i64 k] w fun e w' => e = .returned (.int .i64 (R.toNat : Int)) ∧ ∃ m, w' = w.drewN m := by
  subst hk hR
  exact rturn_any x j h1 h2 w
theorem or_nat64 (x y : Nat) (hx : x < 4294967296) (hy : y < 4294967296) : bits .or .i64 (x : Int) (y : Int) = ((x ||| y : Nat) : Int) := by
  have h := Dg.v_or (BitVec.ofNat 32 x) (BitVec.ofNat 32 y)
  rw [BitVec.toNat_or, BitVec.toNat_ofNat, BitVec.toNat_ofNat, Nat.mod_eq_of_lt (by omega), Nat.mod_eq_of_lt (by omega)] at h
  exact h
theorem word_said64 (a b c d : UInt8) :
    bits .or .i64 (bits .or .i64 (bits .or .i64 ((a.toNat : Int) * 16777216) ((b.toNat : Int) * 65536)) ((c.toNat : Int) * 256)) (d.toNat : Int) = ((Dg.word a b c d).toNat : Int) := by
  have ha := UInt8.toNat_lt a
  have hb := UInt8.toNat_lt b
  have hc := UInt8.toNat_lt c
  have hd := UInt8.toNat_lt d
  have e1 : (a.toNat * 16777216) ||| (b.toNat * 65536) = 65536 * (a.toNat * 256 + b.toNat) := by
    have := Dg.or_add a.toNat (b.toNat * 65536) 24 (by omega)
    rw [Nat.mul_comm a.toNat]; exact this.trans (by omega)
  have e2 : (65536 * (a.toNat * 256 + b.toNat)) ||| (c.toNat * 256) = 256 * ((a.toNat * 256 + b.toNat) * 256 + c.toNat) := by
    have := Dg.or_add (a.toNat * 256 + b.toNat) (c.toNat * 256) 16 (by omega)
    exact this.trans (by omega)
  have e3 : (256 * ((a.toNat * 256 + b.toNat) * 256 + c.toNat)) ||| d.toNat = ((a.toNat * 256 + b.toNat) * 256 + c.toNat) * 256 + d.toNat := by
    have := Dg.or_add ((a.toNat * 256 + b.toNat) * 256 + c.toNat) d.toNat 8 (by omega)
    exact this.trans (by omega)
  have f1 : (a.toNat : Int) * 16777216 = ((a.toNat * 16777216 : Nat) : Int) := by omega
  have f2 : (b.toNat : Int) * 65536 = ((b.toNat * 65536 : Nat) : Int) := by omega
  have f3 : (c.toNat : Int) * 256 = ((c.toNat * 256 : Nat) : Int) := by omega
  rw [f1, f2, f3, or_nat64 _ _ (by omega) (by omega), e1, or_nat64 _ _ (by omega) (by omega), e2, or_nat64 _ _ (by omega) (by omega), e3]
  unfold Dg.word
  rw [BitVec.toNat_ofNat, Nat.mod_eq_of_lt (by omega)]
end Go.Proofs.YteiabaddmclmlaaDoor
namespace Go.Proofs.YteiabaddmclmlaaDoor
open Go Go.RowKit Go.Shelf
theorem run_append_keeps {P : Program} (w : World) (base : Nat) (t ty e : TypeId) (i : TypeInfo) (z : Value) (size bytes : Nat) (ht : P.underlying t = some (.slice e)) (hi : P.info? e = some i) (hz : i.zero = some z)
    (hsize : i.size = size) (hby : i.bytes = bytes) (hzs : z.cells.size = size) (hsz : 0 < size)
    (g cap n : Nat) (xs : List Value) (hown : w.ownsRow base e size (.slice (some ⟨g, 0, none⟩) n cap) n xs)
    (a : Addr) (m c : Nat) (news : List Value) (hl : news.length = m * size) (hnews : ∀ j u, news[j]? = some u → w.cell? (a.add j) = some u) (h1 : ∀ u ∈ news, u.oneCell' = true)
    (h63 : n + m ≤ maxLen) (hbytes : (n + m) * bytes ≤ 140737488355328) (hbase : base ≤ w.heap.size) :
    ∃ v' w', (Builtin.append_ #[t, t] ty #[.slice (some ⟨g, 0, none⟩) n cap, .slice (some a) m c]).run P w = .ok v' w' ∧ w'.ownsRow base e size v' (n + m) (xs ++ news) ∧ w.grownBy w' (some g) ∧
      ∀ j u, xs[j]? = some u → w'.cell? ((⟨g, 0, none⟩ : Addr).add j) = some u := by
  obtain ⟨v', w', hr, h2, h3, _⟩ := run_append_own (P := P) w base t ty e i z size bytes ht hi hz hsize hby hzs hsz _ n xs hown a m c news hl hnews h1 h63 hbytes hbase
  refine ⟨v', w', hr, h2, h3, ?_⟩
  subst hsize hby
  have hold := hown.cells (g := g) rfl
  rcases hown.2 with ⟨hv, _⟩ | ⟨g', cap', cur, hv, hbg, hg, hnc, hcm, hcs, htake⟩
  · cases hv
  · cases hv
    by_cases hroom : n + m ≤ cap
    · have hfit : n * i.size + news.length ≤ cur.size := by rw [hl, hcs, ← Nat.add_mul]; exact Nat.mul_le_mul_right _ hroom
      have hr' := run_append_room (P := P) w t ty e i ht hi g n cap cur hg a m c news hl hnews h1 hroom hfit
      rw [hr'] at hr
      cases hr
      intro j u hu
      have hjl : j < xs.length := (List.getElem?_eq_some_iff.1 hu).1
      have hadd : (⟨g, 0, none⟩ : Addr).add j = ⟨g, j, none⟩ := by unfold Addr.add; split <;> simp_all
      rw [hadd, cell_of_row _ g j _ e (0, 0) (setRow_heap w g cur _ e _ hg)]
      rw [htake, List.append_assoc, List.getElem?_toArray, List.getElem?_append_left hjl]
      exact hu
    · have hr' := run_append_grow (P := P) w t ty e i z ht hi hz ⟨g, 0, none⟩ n cap xs hown.1 hold a m c news hl hnews (by omega) (by simp only [maxLen] at h63; omega) (growslice_fits (by omega) hbytes)
      rw [hr'] at hr
      cases hr
      intro j u hu
      exact (World.cell?_of_block (heap_alloc_old w.drew _ (by
        have := World.block_lt_of_cell? w _ (hold j u hu)
        exact this))).trans (hold j u hu)
section
variable {w : World} {ops : Array Oper} {o : Oper} {a : Act} {Q : Exit → Act → World → Prop}
theorem step_append_intsK {K : Act → World → Prop} {E : Prop} (hgd : o.guard = none) (s x : Operand) (ho : o.op = .call { callee := .builtin .append, args := #[s, x], argTypes := #[57, 57] })
    (base g cap n : Nat) (L : List Dg.W32) (hn : L.length = n) (hs : a.eval s = .slice (some ⟨g, 0, none⟩) n cap) (hown : IOwn w base (.slice (some ⟨g, 0, none⟩) n cap) L) (ad : Addr) (m c : Nat) (news : List Dg.W32) (hx : a.eval x = .slice (some ad) m c) (hl : news.length = m)
    (hnews : ∀ j u, (iv news)[j]? = some u → w.cell? (ad.add j) = some u) (hbig : L.length + m ≤ 1000000000) (hbase : base ≤ w.heap.size)
    (h : ∀ v' w', IOwn w' base v' (L ++ news) → w.grownBy w' (some g) → IR w' g L → K (a.put o.dst v') w') : if Region.wanted o (yielded ops a.tmps) = true then Oper.wp Tryd.prog o a w K Q else E := by
  have hw : Region.wanted o (yielded ops a.tmps) = true := by simp [Region.wanted, hgd]
  rw [if_pos hw]
  subst hn
  obtain ⟨i0, hi, hz0, hz1, hz2⟩ := info_parts infoI
  obtain ⟨v', w', hr, h2, h3, h4⟩ := run_append_keeps (P := Tryd.prog) w base 57 o.type 3 i0 (.int .i64 0) 1 8 Tryd.underlying57 hi hz0 hz1 hz2 rfl (by omega) g cap L.length (iv L) hown ad m c (iv news) (by rw [iv_length, hl]; omega) hnews (iv_cells _) (by unfold maxLen; omega) (by omega) hbase
  have e1 : (L ++ news).length = L.length + m := by rw [List.length_append, hl]
  have e2 : iv (L ++ news) = iv L ++ iv news := by simp [iv]
  have hO : IOwn w' base v' (L ++ news) := by unfold IOwn; rw [e1, e2]; exact h2
  have hgl : g < w'.heap.size := Nat.lt_of_lt_of_le ((hown.lt g rfl).2) h3.size
  have hI : IR w' g L := ⟨fun j hj => by have := h4 j _ (iv_at hj); rw [add_plain0] at this; exact this, hgl⟩
  unfold Oper.wp execOp
  simp only [ho, resolve, invoke, builtin, Sem.run_bind, Sem.run_pure, Result.andThen_ok, List.map_toArray, List.map_cons, List.map_nil, hs, hx, hr]
  exact h v' w' hO h3 hI
end
end Go.Proofs.YteiabaddmclmlaaDoor
