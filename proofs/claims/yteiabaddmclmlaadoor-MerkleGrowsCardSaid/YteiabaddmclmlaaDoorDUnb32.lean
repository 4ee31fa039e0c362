/-
  Unhex.
  Base32, Unbase32.
  Base32, walked.
  Unbase32, walked.
-/
import Derived.Test.YteiabaddmclmlaaDoorDOwn
namespace Go.Proofs.YteiabaddmclmlaaDoor
open Go Go.RowKit Go.Shelf
namespace Dg
def hexI (c : UInt8) : Int := match hexV c with | some n => (n : Int) | none => -1
theorem hexI_index (c : UInt8) : Lib.indexByte [48, 49, 50, 51, 52, 53, 54, 55, 56, 57, 97, 98, 99, 100, 101, 102] c = hexI c := by
  have H : ∀ k : Fin 256, Lib.indexByte [48, 49, 50, 51, 52, 53, 54, 55, 56, 57, 97, 98, 99, 100, 101, 102] (UInt8.ofNat k.val) = hexI (UInt8.ofNat k.val) := by decide +kernel
  have := H ⟨c.toNat, UInt8.toNat_lt c⟩
  simpa using this
theorem nib_or (x y : Nat) (hx : x < 16) (hy : y < 16) : bits .or .i64 ((x : Int) * 16) (y : Int) = ((UInt8.ofNat (16 * x + y)).toNat : Int) := by
  have H : ∀ x y : Fin 16, bits .or .i64 ((x.val : Int) * 16) (y.val : Int) = ((UInt8.ofNat (16 * x.val + y.val)).toNat : Int) := by decide +kernel
  exact H ⟨x, hx⟩ ⟨y, hy⟩
theorem unhex_cons (a b : UInt8) (r : List UInt8) : unhex (a :: b :: r) = match hexV a, hexV b with
    | some x, some y => (unhex r).map (UInt8.ofNat (16 * x + y) :: ·)
    | _, _ => none := by
  conv => lhs; unfold unhex
  rfl
/-- The rest is still to be read. -/
theorem unhex_step {l L : List UInt8} {k : Nat} {a b : UInt8} (h : unhex l = (unhex (l.drop (2 * k))).map (L ++ ·)) (hd : l.drop (2 * k) = a :: b :: l.drop (2 * (k + 1))) :
    (∀ x y, hexV a = some x → hexV b = some y → unhex l = (unhex (l.drop (2 * (k + 1)))).map ((L ++ [UInt8.ofNat (16 * x + y)]) ++ ·)) ∧ (hexV a = none ∨ hexV b = none → unhex l = none) := by
  rw [hd, unhex_cons] at h
  refine ⟨fun x y hx hy => ?_, fun hn => ?_⟩
  · rw [hx, hy] at h
    simp only at h
    rw [h, Option.map_map]
    congr 1
    funext t
    simp
  · rcases hn with hn | hn
    · rw [hn] at h
      simpa using h
    · rw [hn] at h
      cases hexV a <;> simpa using h
theorem drop_two {l : List UInt8} {k : Nat} (h : 2 * k + 1 < l.length) : l.drop (2 * k) = l[2 * k] :: l[2 * k + 1] :: l.drop (2 * (k + 1)) := by
  rw [List.drop_eq_getElem_cons (by omega), List.drop_eq_getElem_cons (i := 2 * k + 1) (by omega)]
  rfl
end Dg
theorem hexIdx_call (c : UInt8) (n : Nat) (w : World) :
    Calls Tryd.prog 50 #[.string ⟨#[48, 49, 50, 51, 52, 53, 54, 55, 56, 57, 97, 98, 99, 100, 101, 102]⟩, .int .u8 (c.toNat : Int)] (w.drewN n) fun e w' => e = .returned (.int .i64 (Dg.hexI c)) ∧ ∃ m, w' = w.drewN m :=
  (indexByte_any ⟨#[48, 49, 50, 51, 52, 53, 54, 55, 56, 57, 97, 98, 99, 100, 101, 102]⟩ (c.toNat : Int) (w.drewN n)).mono fun e w' ⟨h1, h2⟩ => ⟨by rw [h1, ← Dg.hexI_index]; simp, n, h2.symm⟩
theorem ret_pair {a b : ByteArray} {x y : Bool} (h : a = b) (hx : x = y) : Ending.returned (.tuple #[.string a, .bool x]) = .returned (.tuple #[.string b, .bool y]) := by rw [h, hx]
set_option maxHeartbeats 4000000 in
set_option maxRecDepth 100000 in
theorem unhex_any (s : ByteArray) (hs : s.size ≤ 100000000) (w : World) :
    Calls Tryd.prog 11 #[.string s] w fun e w' => e = .returned (.tuple #[.string ⟨((Dg.unhex s.data.toList).getD []).toArray⟩, .bool (Dg.unhex s.data.toList).isSome]) ∧ Below w.heap.size w w' := by
  obtain ⟨i0, hi, hz0, hz1, hz2⟩ := info_parts infoU
  have hz := Lib.hid (Lib.size_eq s)
  by_cases hodd : s.size % 2 = 1
  · have hn := Dg.unhex_odd s.data.toList (by rw [← hz.out]; exact hodd)
    rw [hn]
    have b1 : ((s.size : Int) % 2) = 1 := by omega
    clear hn
    go_enter Tryd.func11, Tryd.ntmps11
    go_wp2
    go_ret2
    exact ⟨rfl, Below.refl _ _⟩
  · obtain ⟨n, hn⟩ : ∃ n, s.size = 2 * n := ⟨s.size / 2, by omega⟩
    have b1 : ((s.size : Int) % 2) = 0 := by omega
    have b2 : ((s.size : Int) / 2) = (n : Int) := by omega
    have b3 : n ≤ 50000000 := by omega
    have HNN := Lib.hid hn
    clear hn hodd
    obtain ⟨U, hU⟩ : ∃ U, Dg.unhex s.data.toList = U := ⟨_, rfl⟩
    have HU := Lib.hid (show ∀ P : Option (List UInt8) → Prop, (P (Dg.unhex s.data.toList) ↔ P U) from fun P => by rw [hU])
    rw [hU]
    clear hU
    go_enter Tryd.func11, Tryd.ntmps11
    go_wp2_with (at_make; refine wpList_make_own _ rfl _ _ 43 rfl w.heap.size 5 i0 (.int .u8 0) 1 Tryd.underlying43 hi hz0 hz1 .i64 .i64 _ n rfl rfl (by omega) (by rw [hz2]; omega) (by unfold maxLen; omega) (Nat.le_refl _) ?_; intro w1 hown hgrow; have HO := Lib.hid hown; have HB := Lib.hid (below_none (Below.refl w.heap.size w) hgrow (Nat.le_refl _)); clear hown hgrow)
    go_loopw [4, 5] (fun v i wr => ∃ (j k : Nat) (vv : Value) (L : List UInt8), vv = v ∧ i = .int .i64 j ∧ Hid (j = 2 * k) ∧ k ≤ n ∧ L.length = k ∧ Hid (Dg.unhex s.data.toList = (Dg.unhex (s.data.toList.drop (2 * k))).map (L ++ ·)) ∧ Hid (BytesOf wr w.heap.size vv L) ∧ Hid (Below w.heap.size w wr)) (fun _ i _ => s.size - (intOf i).toNat)
    case atStart => exact ⟨0, 0, _, [], rfl, rfl, rfl, by omega, rfl, (by first | exact trivial | (show _ = _; simp)), HO.out, HB.out⟩
    case round =>
      clear HO HB
      obtain ⟨j, k, v, L, rfl, rfl, hj, hk, hL, hinv, hown, hB⟩ := hrel
      have hN1 : s.size ≤ 2 * n := by have := HNN.out; omega
      have hN2 : 2 * n ≤ s.size := by have := HNN.out; omega
      have hj1 : j ≤ 2 * k := Nat.le_of_eq hj.out
      have hj2 : 2 * k ≤ j := Nat.le_of_eq hj.out.symm
      by_cases hlt : k < n
      · obtain ⟨a, ha⟩ : ∃ c, s[j] = c := ⟨_, rfl⟩
        obtain ⟨b, hb⟩ : ∃ c, s[j + 1] = c := ⟨_, rfl⟩
        have hd : s.data.toList.drop (2 * k) = a :: b :: s.data.toList.drop (2 * (k + 1)) := by
          rw [Dg.drop_two (by rw [← hz.out]; omega), ← ha, ← hb]
          have := hj.out
          subst this
          rfl
        obtain ⟨hstep, hbad⟩ := Dg.unhex_step hinv.out (a := a) (b := b) hd
        clear hd hinv
        have HS := Lib.hid hstep
        have HBad := Lib.hid hbad
        clear hstep hbad
        have e1 : IntKind.i64.wrap ((j : Int) + 1) = ((j + 1 : Nat) : Int) := by rw [IntWalk.i64_in _ (by omega)]; omega
        have al := UInt8.toNat_lt a
        have bl := UInt8.toNat_lt b
        go_wp2_with fail
        go_quiet (first | (go_at_call 50; exact hexIdx_call _ _ _))
        cases hxa : Dg.hexV a with
        | none =>
          have e0 : Dg.hexI a = -1 := by unfold Dg.hexI; rw [hxa]
          rw [e0]
          have hUn : U = none := (HU.out (fun u => u = none)).1 (HBad.out (.inl hxa))
          have HB2 := Lib.hid (below_drewN hB.out)
          clear HS HBad e0
          go_wp2
          go_ret2
          rw [hUn]
          exact ⟨rfl, HB2.out _⟩
        | some x =>
          cases hxb : Dg.hexV b with
          | none =>
            have e9 : Dg.hexI a = (x : Int) := by unfold Dg.hexI; rw [hxa]
            rw [e9]
            clear e9
            have e0 : Dg.hexI b = -1 := by unfold Dg.hexI; rw [hxb]
            rw [e0]
            have hUn : U = none := (HU.out (fun u => u = none)).1 (HBad.out (.inr hxb))
            have HB2 := Lib.hid (below_drewN hB.out)
            clear HS HBad e0
            go_wp2
            go_ret2
            rw [hUn]
            exact ⟨rfl, HB2.out _⟩
          | some y =>
            have e9 : Dg.hexI a = (x : Int) := by unfold Dg.hexI; rw [hxa]
            have e8 : Dg.hexI b = (y : Int) := by unfold Dg.hexI; rw [hxb]
            rw [e9, e8]
            have hx := (Dg.hexV_some hxa).1
            have hy := (Dg.hexV_some hxb).1
            have hor := Dg.nib_or x y hx hy
            have hnx := HS.out x y hxa hxb
            obtain ⟨z, hzb⟩ : ∃ z, UInt8.ofNat (16 * x + y) = z := ⟨_, rfl⟩
            rw [hzb] at hor hnx
            have HN := Lib.hid hnx
            have hzl := UInt8.toNat_lt z
            clear hzb hnx HS HBad e9 e8 hxa hxb
            generalize hw2 : wr.drewN _ = w2
            have hown2 : Hid (BytesOf w2 w.heap.size v L) := by rw [← hw2]; exact hown.out
            have hB2 : Hid (Below w.heap.size w w2) := by rw [← hw2]; exact below_drewN hB.out _
            clear hw2 hown hB
            go_wp2_with (at_builtin; go_must (refine wpList_append_bytes (by rfl) _ _ (by rfl) w.heap.size _ L (by rfl) (hown2.out.alloc _) ⟨w2.heap.size, 0, none⟩ 1 1 [z] (by rfl) rfl (cells_new w2 (bv [z]) _) (by omega) (Nat.le_trans hB2.out.size (by first | exact Nat.le_succ _ | simp)) ?_); intro v1 w3 hown3 hgrow; have HO3 := Lib.hid hown3; have HB3 := Lib.hid (below_grown (below_alloc hB2.out (Nat.le_refl _) _) (hown2.out.alloc _) hgrow (Nat.le_refl _) (Nat.le_refl _)); clear hown3 hgrow)
            go_roundw
            case rel => exact ⟨j + 2, k + 1, v1, L ++ [z], rfl, by go_num, (by show _ = _; rw [hj.out]; omega), by omega, by rw [List.length_append, hL]; rfl, HN.out, HO3.out, HB3.out⟩
            case measure => simp [intOf]; omega
      · obtain rfl : k = n := by omega
        have hinv' := hinv.out
        rw [List.drop_of_length_le (by rw [← hz.out]; omega)] at hinv'
        have hUs : U = some L := (HU.out (fun u => u = some L)).1 (by rw [hinv']; simp [Dg.unhex])
        have hcv := hown.out.back
        have b4 : ¬ ((j : Int) < (s.size : Int)) := by omega
        clear hinv hinv'
        go_wp2
        go_ret2
        exact ⟨rfl, hB.out⟩
end Go.Proofs.YteiabaddmclmlaaDoor
namespace Go.Proofs.YteiabaddmclmlaaDoor
open Go Go.RowKit Go.Shelf
namespace Dg
theorem div_mod32 (G g k : Nat) (h : G % 2 ^ (k + 5) = g % 2 ^ (k + 5)) : G / 2 ^ k % 32 = g / 2 ^ k % 32 := by
  have e : ∀ x : Nat, x / 2 ^ k % 32 = x % 2 ^ (k + 5) / 2 ^ k := fun x => by
    rw [Nat.pow_add, Nat.mod_mul_right_div_self]
  rw [e, e, h]
theorem mod_less {G g a b : Nat} (h : G % 2 ^ b = g % 2 ^ b) (hab : a ≤ b) : G % 2 ^ a = g % 2 ^ a := by
  obtain ⟨c, rfl⟩ : ∃ c, b = a + c := ⟨b - a, by omega⟩
  have e : ∀ x : Nat, x % 2 ^ (a + c) % 2 ^ a = x % 2 ^ a := fun x => Nat.mod_mod_of_dvd _ ⟨2 ^ c, by rw [Nat.pow_add]⟩
  rw [← e G, ← e g, h]
theorem mod_mul256 {G g s c : Nat} (h : G % 2 ^ s = g % 2 ^ s) : (G * 256 + c) % 2 ^ (s + 8) = (g * 256 + c) % 2 ^ (s + 8) := by
  have e : ∀ x : Nat, (x * 256) % 2 ^ (s + 8) = x % 2 ^ s * 256 := fun x => by
    rw [Nat.pow_add]
    show x * 2 ^ 8 % (2 ^ s * 2 ^ 8) = _
    rw [Nat.mul_mod_mul_right]
  rw [Nat.add_mod, e, h, ← e, ← Nat.add_mod]
theorem enc_mod : ∀ (l : List UInt8) (G g s : Nat), s < 5 → G % 2 ^ s = g % 2 ^ s → enc G s l = enc g s l
  | [], G, g, s, hs, h => by
    unfold enc
    have e : ∀ x : Nat, x * 2 ^ (5 - s) % 32 = x % 2 ^ s * 2 ^ (5 - s) := fun x => by
      have : (32 : Nat) = 2 ^ s * 2 ^ (5 - s) := by rw [← Nat.pow_add, show s + (5 - s) = 5 from by omega]
      rw [this, Nat.mul_mod_mul_right]
    rw [e, e, h]
  | c :: l, G, g, s, hs, h => by
    have h8 := mod_mul256 (c := c.toNat) h
    unfold enc
    by_cases h2 : 2 ≤ s
    · rw [if_pos h2, if_pos h2, div_mod32 _ _ (s + 3) h8, div_mod32 _ _ (s - 2) (mod_less h8 (by omega)), mod_less h8 (show s - 2 ≤ s + 8 by omega)]
    · rw [if_neg h2, if_neg h2, div_mod32 _ _ (s + 3) h8, mod_less h8 (show s + 3 ≤ s + 8 by omega)]
/-- What is written when 'm' bits of 'V' are there. -/
def emit (V : Nat) (l : List UInt8) (m : Nat) : List UInt8 :=
  if 10 ≤ m then b32Digits.getD (V / 2 ^ (m - 5) % 32) 0 :: b32Digits.getD (V / 2 ^ (m - 10) % 32) 0 :: enc V (m - 10) l
  else if 5 ≤ m then b32Digits.getD (V / 2 ^ (m - 5) % 32) 0 :: enc V (m - 5) l else enc V m l
theorem emit_step (V : Nat) (l : List UInt8) (m : Nat) (h : m + 5 < 15) : emit V l (m + 5) = b32Digits.getD (V / 2 ^ m % 32) 0 :: emit V l m := by
  unfold emit
  by_cases h5 : 5 ≤ m
  · rw [if_pos (by omega), if_neg (by omega), if_pos h5, show m + 5 - 5 = m from by omega, show m + 5 - 10 = m - 5 from by omega]
  · rw [if_neg (by omega), if_pos (by omega), if_neg (by omega), if_neg h5, show m + 5 - 5 = m from by omega]
theorem emit_end (V : Nat) (l : List UInt8) (m : Nat) (h : m < 5) : emit V l m = enc V m l := by
  unfold emit
  rw [if_neg (by omega), if_neg (by omega)]
theorem enc_emit (G V s : Nat) (c : UInt8) (l : List UInt8) (hs : s < 5) (hV : V % 4294967296 = (G * 256 + c.toNat) % 4294967296) : enc G s (c :: l) = emit V l (s + 8) := by
  have h32 : V % 2 ^ 32 = (G * 256 + c.toNat) % 2 ^ 32 := hV
  unfold enc emit
  by_cases h2 : 2 ≤ s
  · rw [if_pos h2, if_pos (by omega), show s + 8 - 5 = s + 3 from by omega, show s + 8 - 10 = s - 2 from by omega, div_mod32 V _ (s + 3) (mod_less h32 (by omega)), div_mod32 V _ (s - 2) (mod_less h32 (by omega)),
      enc_mod l V ((G * 256 + c.toNat) % 2 ^ (s - 2)) (s - 2) (by omega) (by rw [Nat.mod_mod]; exact mod_less h32 (by omega))]
  · rw [if_neg h2, if_neg (by omega), if_pos (by omega), show s + 8 - 5 = s + 3 from by omega, div_mod32 V _ (s + 3) (mod_less h32 (by omega)),
      enc_mod l V ((G * 256 + c.toNat) % 2 ^ (s + 3)) (s + 3) (by omega) (by rw [Nat.mod_mod]; exact mod_less h32 (by omega))]
theorem shl_or (G : W32) (c : UInt8) : ∃ V : W32, bits .or .u32 ((G.toNat : Int) * 256 % (4294967296 : Int)) (c.toNat : Int) = (V.toNat : Int) ∧ V.toNat % 4294967296 = (G.toNat * 256 + c.toNat) % 4294967296 := by
  have hc := UInt8.toNat_lt c
  refine ⟨BitVec.ofNat 32 (G.toNat * 256 + c.toNat), ?_, by rw [BitVec.toNat_ofNat]; omega⟩
  obtain ⟨q, hq⟩ : ∃ q, G.toNat % 16777216 = q := ⟨_, rfl⟩
  have e1 : (G.toNat : Int) * 256 % (4294967296 : Int) = ((256 * q : Nat) : Int) := by omega
  rw [e1, u32_or_nat _ _ (by omega) (by omega), show 256 * q ||| c.toNat = 256 * q + c.toNat from or_add q c.toNat 8 (by omega), BitVec.toNat_ofNat]
  omega
theorem and31 (n : Nat) (h : n < 4294967296) : bits .and .u32 (n : Int) 31 = ((n % 32 : Nat) : Int) := by
  have := u32_and_nat n 31 h (by omega)
  rw [show ((31 : Nat) : Int) = 31 from rfl] at this
  rw [this, show n &&& 31 = n % 2 ^ 5 from Nat.and_two_pow_sub_one_eq_mod n 5]
end Dg
end Go.Proofs.YteiabaddmclmlaaDoor
namespace Go.Proofs.YteiabaddmclmlaaDoor
open Go Go.RowKit Go.Shelf
theorem and31_shr (V : Dg.W32) (m : Nat) : bits .and .u32 ((V.toNat : Int) / 2 ^ m) 31 = ((V.toNat / 2 ^ m % 32 : Nat) : Int) := by
  have h : V.toNat / 2 ^ m < 4294967296 := Nat.lt_of_le_of_lt (Nat.div_le_self _ _) V.isLt
  rw [← Dg.and31 _ h]
  simp
theorem and31_shl (G : Dg.W32) (m : Nat) (_hm : m ≤ 5) : bits .and .u32 ((G.toNat : Int) * 2 ^ m % (4294967296 : Int)) 31 = ((G.toNat * 2 ^ m % 32 : Nat) : Int) := by
  have h : G.toNat * 2 ^ m % 4294967296 < 4294967296 := Nat.mod_lt _ (by omega)
  have e : (G.toNat : Int) * 2 ^ m % (4294967296 : Int) = ((G.toNat * 2 ^ m % 4294967296 : Nat) : Int) := by simp
  rw [e, Dg.and31 _ h, show (4294967296 : Nat) = 32 * 134217728 from rfl, Nat.mod_mul_right_mod]
theorem digit_at (d : Nat) (h : d < 32) (w : World) : (Instr.index 9 (.string ⟨#[97, 98, 99, 100, 101, 102, 103, 104, 105, 106, 107, 108, 109, 110, 111, 112, 113, 114, 115, 116, 117, 118, 119, 120, 121, 122, 50, 51, 52, 53, 54, 55]⟩) (.int .u32 (d : Int))).run Tryd.prog w = .ok (.int .u8 ((Dg.b32Digits.getD d 0).toNat : Int)) w :=
  index_at ⟨#[97, 98, 99, 100, 101, 102, 103, 104, 105, 106, 107, 108, 109, 110, 111, 112, 113, 114, 115, 116, 117, 118, 119, 120, 121, 122, 50, 51, 52, 53, 54, 55]⟩ .u32 (d : Int) d rfl h w
set_option maxHeartbeats 4000000 in
set_option maxRecDepth 100000 in
theorem b32_any (s : ByteArray) (hs : s.size ≤ 10000000) (w : World) :
    Calls Tryd.prog 23 #[.string s] w fun e w' => e = .returned (.string ⟨(Dg.b32 s.data.toList).toArray⟩) ∧ Below w.heap.size w w' := by
  obtain ⟨i0, hi, hz0, hz1, hz2⟩ := info_parts infoU
  have hz := Lib.hid (Lib.size_eq s)
  obtain ⟨n2, hn2⟩ : ∃ n, n = (8 * s.size + 4) / 5 := ⟨_, rfl⟩
  have hn3 : n2 ≤ 20000000 := by omega
  have hm : ((8 : Int) * (s.size : Int) + 4) / 5 = (n2 : Int) := by omega
  clear hn2
  obtain ⟨l, hl⟩ : ∃ l, s.data.toList = l := ⟨_, rfl⟩
  rw [hl] at hz ⊢
  have HL := Lib.hid (show ∀ P : List UInt8 → Prop, P s.data.toList → P l from fun P h => by rw [← hl]; exact h)
  clear hl
  go_enter Tryd.func23, Tryd.ntmps23
  go_wp2_with (at_make; refine wpList_make_own _ rfl _ _ 43 rfl w.heap.size 5 i0 (.int .u8 0) 1 Tryd.underlying43 hi hz0 hz1 .i64 .i64 _ n2 rfl rfl (by omega) (by rw [hz2]; omega) (by unfold maxLen; omega) (Nat.le_refl _) ?_; intro w1 hown hgrow; have HO := Lib.hid hown; have HB := Lib.hid (below_none (Below.refl w.heap.size w) hgrow (Nat.le_refl _)); clear hown hgrow)
  go_loopw [3, 4, 5, 15] (fun v gv sv i wr => ∃ (k size : Nat) (G : Dg.W32) (vv : Value) (L : List UInt8), vv = v ∧ gv = .int .u32 (G.toNat : Int) ∧ sv = .int .i64 size ∧ i = .int .i64 k ∧ k ≤ s.size ∧ size < 5 ∧ L.length ≤ 2 * k ∧
      Hid (Dg.b32 l = L ++ Dg.enc G.toNat size (l.drop k)) ∧ Hid (BytesOf wr w.heap.size vv L) ∧ Hid (Below w.heap.size w wr)) (fun _ _ _ i _ => s.size - (intOf i).toNat)
  case atStart => exact ⟨0, 0, 0, _, [], rfl, rfl, rfl, rfl, by omega, by omega, by simp, rfl, HO.out, HB.out⟩
  case round =>
    clear HO HB
    obtain ⟨k, size, G, v, L, rfl, rfl, rfl, rfl, hk, hsz, hL, hinv, hown, hB⟩ := hrel
    by_cases hlt : k < s.size
    · obtain ⟨c, hc⟩ : ∃ c, s[k] = c := ⟨_, rfl⟩
      have hd : l.drop k = c :: l.drop (k + 1) := by
        rw [List.drop_eq_getElem_cons (by rw [← hz.out]; exact hlt), ← hc]
        congr 1
        exact HL.out (fun l => ∀ h : k < l.length, l[k] = s[k]) (fun h => rfl) _
      obtain ⟨V, hV, hVm⟩ := Dg.shl_or G c
      have hE := hinv.out
      rw [hd, Dg.enc_emit G.toNat V.toNat size c _ hsz hVm] at hE
      have HE := Lib.hid hE
      have hVl := V.isLt
      have hGl := G.isLt
      have hcl := UInt8.toNat_lt c
      clear hinv hd hVm hE
      go_wp2_with fail
      go_loopw [3, 5] (fun v sv wr => ∃ (m : Nat) (vv : Value) (L : List UInt8), vv = v ∧ sv = .int .i64 m ∧ m ≤ 12 ∧ L.length + m / 5 ≤ 2 * k + 2 ∧
          Hid (Dg.b32 l = L ++ Dg.emit V.toNat (l.drop (k + 1)) m) ∧ Hid (BytesOf wr w.heap.size vv L) ∧ Hid (Below w.heap.size w wr)) (fun _ sv _ => (intOf sv).toNat)
      case atStart => exact ⟨size + 8, _, L, rfl, by go_num, by omega, by omega, HE.out, hown.out, hB.out⟩
      case round =>
        clear hown hB HE hL
        obtain ⟨m, v, L, rfl, rfl, hm12, hL, hinv, hown, hB⟩ := hrel
        by_cases h5 : 5 ≤ m
        · obtain ⟨m', hm'⟩ : ∃ m', m = m' + 5 := ⟨m - 5, by omega⟩
          have hE := hinv.out
          rw [hm', Dg.emit_step _ _ _ (by omega)] at hE
          have HE := Lib.hid hE
          have e1 : IntKind.i64.wrap ((m : Int) - 5) = (m' : Int) := by rw [IntWalk.i64_in _ (by omega)]; omega
          have hm1 : m ≤ m' + 5 := by omega
          have hm2 : m' + 5 ≤ m := by omega
          clear hE hm' hinv
          have hand := and31_shr V m'
          have hdl : V.toNat / 2 ^ m' % 32 < 32 := Nat.mod_lt _ (by omega)
          obtain ⟨d, hd⟩ : ∃ d, V.toNat / 2 ^ m' % 32 = d := ⟨_, rfl⟩
          rw [hd] at hand HE hdl
          have hix := fun w' : World => digit_at d hdl w'
          obtain ⟨z, hzd⟩ : ∃ z, Dg.b32Digits.getD d 0 = z := ⟨_, rfl⟩
          rw [hzd] at hix HE
          clear hd hzd
          go_wp2_with (at_builtin; go_must (refine wpList_append_bytes (by rfl) _ _ (by rfl) w.heap.size _ L (by rfl) (hown.out.alloc _) ⟨wr.heap.size, 0, none⟩ 1 1 [z] (by rfl) rfl (cells_new wr (bv [z]) _) (by omega) (Nat.le_trans hB.out.size (by first | exact Nat.le_succ _ | simp)) ?_); intro v1 w3 hown3 hgrow; have HO3 := Lib.hid hown3; have HB3 := Lib.hid (below_grown (below_alloc hB.out (Nat.le_refl _) _) (hown.out.alloc _) hgrow (Nat.le_refl _) (Nat.le_refl _)); clear hown3 hgrow)
          go_roundw
          case rel => exact ⟨m', v1, L ++ [z], rfl, by first | rfl | go_num, by omega, by rw [List.length_append, List.length_singleton]; omega, (by show _ = _; rw [HE.out]; simp), HO3.out, HB3.out⟩
          case measure => simp [intOf]; omega
        · have hE := hinv.out
          rw [Dg.emit_end _ _ _ (by omega)] at hE
          have HE := Lib.hid hE
          clear hE hinv
          go_wp2
          go_roundw
          case rel => exact ⟨k + 1, m, V, v, L, rfl, rfl, rfl, by go_num, by omega, by omega, by omega, HE.out, hown.out, hB.out⟩
          case measure => simp [intOf]; omega
    · obtain rfl : k = s.size := by omega
      have hE := hinv.out
      rw [List.drop_of_length_le (by rw [← hz.out]; exact Nat.le_refl _)] at hE
      unfold Dg.enc at hE
      have hGl := G.isLt
      by_cases h0 : 0 < size
      · rw [if_pos h0] at hE
        have HE := Lib.hid hE
        obtain ⟨n5, hn5⟩ : ∃ n5, 5 - size = n5 := ⟨_, rfl⟩
        rw [hn5] at HE
        have e1 : IntKind.i64.wrap (5 - (size : Int)) = (n5 : Int) := by rw [IntWalk.i64_in _ (by omega)]; omega
        have hn6 : n5 ≤ 5 := by omega
        have hand := and31_shl G n5 hn6
        have hdl : G.toNat * 2 ^ n5 % 32 < 32 := Nat.mod_lt _ (by omega)
        obtain ⟨d, hd⟩ : ∃ d, G.toNat * 2 ^ n5 % 32 = d := ⟨_, rfl⟩
        rw [hd] at hand HE hdl
        have hix := fun w' : World => digit_at d hdl w'
        obtain ⟨z, hzd⟩ : ∃ z, Dg.b32Digits.getD d 0 = z := ⟨_, rfl⟩
        rw [hzd] at hix HE
        clear hd hzd hE hinv hn5
        go_wp2_with (at_builtin; go_must (refine wpList_append_bytes (by rfl) _ _ (by rfl) w.heap.size _ L (by rfl) (hown.out.alloc _) ⟨wr.heap.size, 0, none⟩ 1 1 [z] (by rfl) rfl (cells_new wr (bv [z]) _) (by omega) (Nat.le_trans hB.out.size (by first | exact Nat.le_succ _ | simp)) ?_); intro v1 w3 hown3 hgrow; have HO3 := Lib.hid hown3; have HB3 := Lib.hid (below_grown (below_alloc hB.out (Nat.le_refl _) _) (hown.out.alloc _) hgrow (Nat.le_refl _) (Nat.le_refl _)); clear hgrow; have hcv := hown3.back; clear hown3)
        go_ret
        exact ⟨by rw [HE.out]; rfl, HB3.out⟩
      · rw [if_neg h0, List.append_nil] at hE
        have HE := Lib.hid hE
        have hcv := hown.out.back
        clear hE hinv
        go_wp2
        go_ret
        exact ⟨by rw [HE.out]; rfl, hB.out⟩
end Go.Proofs.YteiabaddmclmlaaDoor
namespace Go.Proofs.YteiabaddmclmlaaDoor
open Go Go.RowKit Go.Shelf
namespace Dg
theorem byte_mod (G g k : Nat) (h : G % 2 ^ (k + 8) = g % 2 ^ (k + 8)) : UInt8.ofNat (G / 2 ^ k) = UInt8.ofNat (g / 2 ^ k) := by
  have e : ∀ x : Nat, x / 2 ^ k % 256 = x % 2 ^ (k + 8) / 2 ^ k := fun x => by
    rw [Nat.pow_add, Nat.mod_mul_right_div_self]
  apply UInt8.toNat_inj.1
  rw [UInt8.toNat_ofNat', UInt8.toNat_ofNat']
  show G / 2 ^ k % 256 = g / 2 ^ k % 256
  rw [e, e, h]
theorem mod_mul32 {G g s d : Nat} (h : G % 2 ^ s = g % 2 ^ s) : (G * 32 + d) % 2 ^ (s + 5) = (g * 32 + d) % 2 ^ (s + 5) := by
  have e : ∀ x : Nat, (x * 32) % 2 ^ (s + 5) = x % 2 ^ s * 32 := fun x => by
    rw [Nat.pow_add]
    show x * 2 ^ 5 % (2 ^ s * 2 ^ 5) = _
    rw [Nat.mul_mod_mul_right]
  rw [Nat.add_mod, e, h, ← e, ← Nat.add_mod]
theorem dec_mod : ∀ (l : List UInt8) (G g s : Nat), G % 2 ^ s = g % 2 ^ s → dec G s l = dec g s l
  | [], G, g, s, h => by unfold dec; rw [h]
  | c :: l, G, g, s, h => by
    unfold dec
    cases b32V c with
    | none => rfl
    | some d =>
      have h5 := mod_mul32 (d := d) h
      simp only
      by_cases h3 : 3 ≤ s
      · rw [if_pos h3, if_pos h3, byte_mod (G * 32 + d) (g * 32 + d) (s - 3) (by rw [show s - 3 + 8 = s + 5 from by omega]; exact h5), mod_less h5 (show s - 3 ≤ s + 5 by omega)]
      · rw [if_neg h3, if_neg h3]
        exact dec_mod l _ _ (s + 5) h5
theorem dec_none {c : UInt8} (h : b32V c = none) (G s : Nat) (l : List UInt8) : dec G s (c :: l) = none := by
  unfold dec; rw [h]
theorem dec_take {c : UInt8} {d : Nat} (h : b32V c = some d) (G V s : Nat) (l : List UInt8) (hs : s < 8) (hV : V % 4294967296 = (G * 32 + d) % 4294967296) (h3 : 3 ≤ s) : dec G s (c :: l) = (dec V (s - 3) l).map (UInt8.ofNat (V / 2 ^ (s - 3)) :: ·) := by
  have h32 : V % 2 ^ 32 = (G * 32 + d) % 2 ^ 32 := hV
  conv => lhs; unfold dec
  rw [h]
  simp only
  rw [if_pos h3, ← byte_mod V (G * 32 + d) (s - 3) (mod_less h32 (by omega)), ← dec_mod l V ((G * 32 + d) % 2 ^ (s - 3)) (s - 3) (by rw [Nat.mod_mod]; exact mod_less h32 (by omega))]
theorem dec_wait {c : UInt8} {d : Nat} (h : b32V c = some d) (G V s : Nat) (l : List UInt8) (hV : V % 4294967296 = (G * 32 + d) % 4294967296) (h3 : ¬ 3 ≤ s) : dec G s (c :: l) = dec V (s + 5) l := by
  have h32 : V % 2 ^ 32 = (G * 32 + d) % 2 ^ 32 := hV
  conv => lhs; unfold dec
  rw [h]
  simp only
  rw [if_neg h3]
  exact (dec_mod l V _ (s + 5) (mod_less h32 (by omega))).symm
theorem shl_or5 (G : W32) (d : Nat) (hd : d < 32) : ∃ V : W32, bits .or .u32 ((G.toNat : Int) * 32 % (4294967296 : Int)) (d : Int) = (V.toNat : Int) ∧ V.toNat % 4294967296 = (G.toNat * 32 + d) % 4294967296 := by
  refine ⟨BitVec.ofNat 32 (G.toNat * 32 + d), ?_, by rw [BitVec.toNat_ofNat]; omega⟩
  obtain ⟨q, hq⟩ : ∃ q, G.toNat % 134217728 = q := ⟨_, rfl⟩
  have e1 : (G.toNat : Int) * 32 % (4294967296 : Int) = ((32 * q : Nat) : Int) := by omega
  rw [e1, u32_or_nat _ _ (by omega) (by omega), show 32 * q ||| d = 32 * q + d from or_add q d 5 (by omega), BitVec.toNat_ofNat]
  omega
def b32I (c : UInt8) : Int := match b32V c with | some n => (n : Int) | none => -1
theorem b32I_index (c : UInt8) : Lib.indexByte [97, 98, 99, 100, 101, 102, 103, 104, 105, 106, 107, 108, 109, 110, 111, 112, 113, 114, 115, 116, 117, 118, 119, 120, 121, 122, 50, 51, 52, 53, 54, 55] c = b32I c := by
  have H : ∀ k : Fin 256, Lib.indexByte [97, 98, 99, 100, 101, 102, 103, 104, 105, 106, 107, 108, 109, 110, 111, 112, 113, 114, 115, 116, 117, 118, 119, 120, 121, 122, 50, 51, 52, 53, 54, 55] (UInt8.ofNat k.val) = b32I (UInt8.ofNat k.val) := by decide +kernel
  have := H ⟨c.toNat, UInt8.toNat_lt c⟩
  simpa using this
end Dg
theorem b32Idx_call (c : UInt8) (w : World) :
    Calls Tryd.prog 50 #[.string ⟨#[97, 98, 99, 100, 101, 102, 103, 104, 105, 106, 107, 108, 109, 110, 111, 112, 113, 114, 115, 116, 117, 118, 119, 120, 121, 122, 50, 51, 52, 53, 54, 55]⟩, .int .u8 (c.toNat : Int)] w fun e w' => e = .returned (.int .i64 (Dg.b32I c)) ∧ w = w' :=
  (indexByte_any ⟨#[97, 98, 99, 100, 101, 102, 103, 104, 105, 106, 107, 108, 109, 110, 111, 112, 113, 114, 115, 116, 117, 118, 119, 120, 121, 122, 50, 51, 52, 53, 54, 55]⟩ (c.toNat : Int) w).mono fun e w' ⟨h1, h2⟩ => ⟨by rw [h1, ← Dg.b32I_index]; simp, h2⟩
theorem mask_and (G : Dg.W32) (m : Nat) (hm : m ≤ 8) : bits .and .u32 (G.toNat : Int) (((2 : Int) ^ m - 1) % (4294967296 : Int)) = ((G.toNat % 2 ^ m : Nat) : Int) := by
  have hp : 2 ^ m ≤ 2 ^ 8 := Nat.pow_le_pow_right (by omega) hm
  have h1 : 1 ≤ 2 ^ m := Nat.one_le_two_pow
  have e0 : (2 : Int) ^ m - 1 = ((2 ^ m - 1 : Nat) : Int) := by
    rw [Int.ofNat_sub h1]; simp
  have e : ((2 : Int) ^ m - 1) % (4294967296 : Int) = ((2 ^ m - 1 : Nat) : Int) := by rw [e0]; omega
  rw [e, u32_and_nat _ _ G.isLt (by omega), Nat.and_two_pow_sub_one_eq_mod]
set_option maxHeartbeats 4000000 in
set_option maxRecDepth 100000 in
theorem unb32_any (s : ByteArray) (hs : s.size ≤ 10000000) (w : World) :
    Calls Tryd.prog 13 #[.string s] w fun e w' => e = .returned (.tuple #[.string ⟨((Dg.unb32 s.data.toList).getD []).toArray⟩, .bool (Dg.unb32 s.data.toList).isSome]) ∧ Below w.heap.size w w' := by
  obtain ⟨i0, hi, hz0, hz1, hz2⟩ := info_parts infoU
  have hz := Lib.hid (Lib.size_eq s)
  obtain ⟨n2, hn2⟩ : ∃ n, n = 5 * s.size / 8 := ⟨_, rfl⟩
  have hn3 : n2 ≤ 20000000 := by omega
  have hm : ((5 : Int) * (s.size : Int)) / 8 = (n2 : Int) := by omega
  clear hn2
  obtain ⟨l, hl⟩ : ∃ l, s.data.toList = l := ⟨_, rfl⟩
  rw [hl] at hz ⊢
  have HL := Lib.hid (show ∀ P : List UInt8 → Prop, P s.data.toList → P l from fun P h => by rw [← hl]; exact h)
  clear hl
  obtain ⟨U, hU⟩ : ∃ U, Dg.unb32 l = U := ⟨_, rfl⟩
  rw [hU]
  have HU := Lib.hid (show ∀ P : Option (List UInt8) → Prop, (P (Dg.unb32 l) ↔ P U) from fun P => by rw [hU])
  clear hU
  go_enter Tryd.func13, Tryd.ntmps13
  go_wp2_with (at_make; refine wpList_make_own _ rfl _ _ 43 rfl w.heap.size 5 i0 (.int .u8 0) 1 Tryd.underlying43 hi hz0 hz1 .i64 .i64 _ n2 rfl rfl (by omega) (by rw [hz2]; omega) (by unfold maxLen; omega) (Nat.le_refl _) ?_; intro w1 hown hgrow; have HO := Lib.hid hown; have HB := Lib.hid (below_none (Below.refl w.heap.size w) hgrow (Nat.le_refl _)); clear hown hgrow)
  go_loopw [4, 5, 6, 16] (fun v gv sv i wr => ∃ (k size : Nat) (G : Dg.W32) (vv : Value) (L : List UInt8), vv = v ∧ gv = .int .u32 (G.toNat : Int) ∧ sv = .int .i64 size ∧ i = .int .i64 k ∧ k ≤ s.size ∧ size < 8 ∧ L.length ≤ k ∧
      Hid (Dg.unb32 l = (Dg.dec G.toNat size (l.drop k)).map (L ++ ·)) ∧ Hid (BytesOf wr w.heap.size vv L) ∧ Hid (Below w.heap.size w wr)) (fun _ _ _ i _ => s.size - (intOf i).toNat)
  case atStart => exact ⟨0, 0, 0, _, [], rfl, rfl, rfl, rfl, by omega, by omega, by simp, (by first | exact trivial | (show _ = _; simp [Dg.unb32])), HO.out, HB.out⟩
  case round =>
    clear HO HB
    obtain ⟨k, size, G, v, L, rfl, rfl, rfl, rfl, hk, hsz, hL, hinv, hown, hB⟩ := hrel
    by_cases hlt : k < s.size
    · obtain ⟨c, hc⟩ : ∃ c, s[k] = c := ⟨_, rfl⟩
      have hd : l.drop k = c :: l.drop (k + 1) := by
        rw [List.drop_eq_getElem_cons (by rw [← hz.out]; exact hlt), ← hc]
        congr 1
        exact HL.out (fun l => ∀ h : k < l.length, l[k] = s[k]) (fun h => rfl) _
      have hE := hinv.out
      rw [hd] at hE
      have HE := Lib.hid hE
      have hGl := G.isLt
      have hcl := UInt8.toNat_lt c
      clear hinv hd hE
      go_wp2_with fail
      refine (b32Idx_call c _).mono ?_
      rintro e w1 ⟨rfl, rfl⟩
      cases hv : Dg.b32V c with
      | none =>
        have e0 : Dg.b32I c = -1 := by unfold Dg.b32I; rw [hv]
        rw [e0]
        have hUn : U = none := (HU.out (fun u => u = none)).1 (by rw [HE.out, Dg.dec_none hv]; rfl)
        clear e0 HE hv
        go_wp2
        go_ret2
        exact ⟨by first | rfl | (rw [hUn]; rfl), hB.out⟩
      | some d =>
        have e0 : Dg.b32I c = (d : Int) := by unfold Dg.b32I; rw [hv]
        rw [e0]
        have hd32 := (Dg.b32V_some hv).1
        obtain ⟨V, hV, hVm⟩ := Dg.shl_or5 G d hd32
        have hVl := V.isLt
        by_cases h3 : 3 ≤ size
        · have hE := HE.out
          rw [Dg.dec_take hv G.toNat V.toNat size _ hsz hVm h3] at hE
          obtain ⟨m, hm'⟩ : ∃ m, size - 3 = m := ⟨_, rfl⟩
          rw [hm'] at hE
          have hzm : ((V.toNat : Int) / 2 ^ m) % (256 : Int) = ((UInt8.ofNat (V.toNat / 2 ^ m)).toNat : Int) := by
            rw [UInt8.toNat_ofNat']
            simp
          obtain ⟨z, hzz⟩ : ∃ z, UInt8.ofNat (V.toNat / 2 ^ m) = z := ⟨_, rfl⟩
          rw [hzz] at hE hzm
          have HE2 := Lib.hid hE
          have e1 : IntKind.i64.wrap ((size : Int) + 5 - 8) = (m : Int) := by rw [IntWalk.i64_in _ (by omega)]; omega
          have hm1 : m + 3 ≤ size := by omega
          clear hE hm' hzz HE hv e0 hVm
          go_wp2_with (at_builtin; go_must (refine wpList_append_bytes (by rfl) _ _ (by rfl) w.heap.size _ L (by rfl) (hown.out.alloc _) ⟨wr.heap.size, 0, none⟩ 1 1 [z] (by rfl) rfl (cells_new wr (bv [z]) _) (by omega) (Nat.le_trans hB.out.size (by first | exact Nat.le_succ _ | simp)) ?_); intro v1 w3 hown3 hgrow; have HO3 := Lib.hid hown3; have HB3 := Lib.hid (below_grown (below_alloc hB.out (Nat.le_refl _) _) (hown.out.alloc _) hgrow (Nat.le_refl _) (Nat.le_refl _)); clear hown3 hgrow)
          go_roundw
          case rel => exact ⟨k + 1, m, V, v1, L ++ [z], rfl, rfl, by first | rfl | go_num, by go_num, by omega, by omega, by rw [List.length_append, List.length_singleton]; omega, (by show _ = _; rw [HE2.out, Option.map_map]; congr 1; funext t; simp), HO3.out, HB3.out⟩
          case measure => simp [intOf]; omega
        · have hE := HE.out
          rw [Dg.dec_wait hv G.toNat V.toNat size _ hVm h3] at hE
          have HE2 := Lib.hid hE
          clear hE HE hv e0 hVm
          go_wp2
          go_roundw
          case rel => exact ⟨k + 1, size + 5, V, v, L, rfl, rfl, by first | rfl | go_num, by go_num, by omega, by omega, by omega, HE2.out, hown.out, hB.out⟩
          case measure => simp [intOf]; omega
    · obtain rfl : k = s.size := by omega
      have hE := hinv.out
      rw [List.drop_of_length_le (by rw [← hz.out]; exact Nat.le_refl _)] at hE
      unfold Dg.dec at hE
      have hGl := G.isLt
      by_cases h5 : 5 ≤ size
      · rw [if_pos (.inl h5)] at hE
        have hUn : U = none := (HU.out (fun u => u = none)).1 (by rw [hE]; rfl)
        clear hE hinv
        go_wp2
        go_ret2
        exact ⟨by first | rfl | (rw [hUn]; rfl), hB.out⟩
      · have hmask := mask_and G size (by omega)
        by_cases h0 : G.toNat % 2 ^ size = 0
        · rw [if_neg (by omega)] at hE
          have hUs : U = some L := (HU.out (fun u => u = some L)).1 (by rw [hE]; simp)
          have hcv := hown.out.back
          rw [h0] at hmask
          have b5 : ¬ (5 ≤ (size : Int)) := by omega
          clear hE hinv h0
          go_wp2
          go_ret2
          exact ⟨by first | rfl | (rw [hUs]; rfl), hB.out⟩
        · rw [if_pos (.inr h0)] at hE
          have hUn : U = none := (HU.out (fun u => u = none)).1 (by rw [hE]; rfl)
          have hne : (bits .and .u32 (G.toNat : Int) (((2 : Int) ^ size - 1) % (4294967296 : Int)) != 0) = true := by
            rw [hmask, bne_iff_ne]
            omega
          have b5 : ¬ (5 ≤ (size : Int)) := by omega
          clear hE hinv hmask
          go_wp2
          go_ret2
          exact ⟨by first | rfl | (rw [hUn]; rfl), hB.out⟩
end Go.Proofs.YteiabaddmclmlaaDoor
