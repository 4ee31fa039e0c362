/-
  DigestXors's law.
-/
import Derived.Test.YtdiolhhfbllfeaaDoorDSmall
namespace Go.Proofs.YtdiolhhfbllfeaaDoor
open Go Go.RowKit Go.Shelf
theorem min3_at (x y z : Nat) (w : World) : (Builtin.min_ #[3, 3, 3] 3 #[.int .i64 (x : Int), .int .i64 (y : Int), .int .i64 (z : Int)]).run Tryd.prog w = .ok (.int .i64 ((min (min x y) z : Nat) : Int)) w := by
  rw [run_min_int3]
  congr 2
  split <;> split at * <;> omega
theorem xor8 (a b : UInt8) : bits .xor .u8 (a.toNat : Int) (b.toNat : Int) = ((a ^^^ b).toNat : Int) := by
  have h1 := UInt8.toNat_lt a
  have h2 := UInt8.toNat_lt b
  rw [u8_xor_nat _ _ (by omega) (by omega)]
  simp
/-- The three strings, byte for byte. -/
def Dg.xor3 (a b c : List UInt8) : List UInt8 := List.zipWith (· ^^^ ·) (List.zipWith (· ^^^ ·) a b) c
theorem Dg.xor3_take (a b c : List UInt8) (k : Nat) (ha : k < a.length) (hb : k < b.length) (hc : k < c.length) : Dg.xor3 (a.take (k + 1)) (b.take (k + 1)) (c.take (k + 1)) = Dg.xor3 (a.take k) (b.take k) (c.take k) ++ [a[k] ^^^ b[k] ^^^ c[k]] := by
  unfold Dg.xor3
  rw [List.take_succ_eq_append_getElem ha, List.take_succ_eq_append_getElem hb, List.take_succ_eq_append_getElem hc, List.zipWith_append (by simp; omega), List.zipWith_append (by simp; omega)]
  rfl
theorem xor3_next (a b c : ByteArray) (k : Nat) (ha : k < a.size) (hb : k < b.size) (hc : k < c.size) : Dg.xor3 (a.data.toList.take (k + 1)) (b.data.toList.take (k + 1)) (c.data.toList.take (k + 1)) = Dg.xor3 (a.data.toList.take k) (b.data.toList.take k) (c.data.toList.take k) ++ [a[k] ^^^ b[k] ^^^ c[k]] :=
  Dg.xor3_take a.data.toList b.data.toList c.data.toList k (by rw [← Lib.size_eq]; exact ha) (by rw [← Lib.size_eq]; exact hb) (by rw [← Lib.size_eq]; exact hc)
theorem crc_at (s : ByteArray) (hs : s.size ≤ 100000000) (A : Dg.W32) (hA : Dg.crc s.data.toList = A) (n : Nat) (w : World) (hE : Env w) :
    Calls Tryd.prog 19 #[.string s] (w.drewN n) fun e w' => e = .returned (.int .i64 (A.toNat : Int)) ∧ ∃ m, w' = w.drewN m :=
  (crc_any s hs (w.drewN n) (hE.drews n)).mono fun e w' ⟨h1, h2⟩ => ⟨by rw [h1, hA], n, h2.symm⟩
theorem BytesOf.drews {w : World} {base : Nat} {v : Value} {l : List UInt8} (h : BytesOf w base v l) (n : Nat) : BytesOf (w.drewN n) base v l := h
theorem ext_start (r : ByteArray) (k : Nat) : (r.extract 0 k).data.toList = r.data.toList.take k := by
  rw [ByteArray.data_extract, Array.toList_extract]
  simp [List.extract]
set_option maxHeartbeats 4000000 in
set_option maxRecDepth 100000 in
theorem xors_law (a b c : ByteArray) (w : World) (hE : Env w) :
    Calls Tryd.prog 7 #[.string a, .string b, .string c] w fun e w' => e = .returned (.bool true) ∧ Below w.heap.size w w' := by
  have HE := Lib.hid hE
  have HS := Lib.hid (small_any w hE)
  clear hE
  have hmin := fun w' : World => min3_at a.size b.size c.size w'
  obtain ⟨n, hn⟩ : ∃ n, min (min a.size b.size) c.size = n := ⟨_, rfl⟩
  rw [hn] at hmin
  have hna : n ≤ a.size := by omega
  have hnb : n ≤ b.size := by omega
  have hnc : n ≤ c.size := by omega
  clear hn
  by_cases h2 : 2000 < n
  · go_enter Tryd.func7, Tryd.ntmps7
    go_wp2_with fail
    refine HS.out.mono ?_
    rintro e w1 ⟨rfl, hb⟩
    go_wp2
    go_ret
    exact ⟨rfl, hb⟩
  · have hza := Lib.size_eq a
    have hzb := Lib.size_eq b
    have hzc := Lib.size_eq c
    have lA : (a.extract 0 n).data.toList = a.data.toList.take n := ext_start a n
    have lB : (b.extract 0 n).data.toList = b.data.toList.take n := ext_start b n
    have lC : (c.extract 0 n).data.toList = c.data.toList.take n := ext_start c n
    have hX := Dg.crc_xors (a.data.toList.take n) (b.data.toList.take n) (c.data.toList.take n) (by simp; omega) (by simp; omega)
    change Dg.crc (Dg.xor3 (a.data.toList.take n) (b.data.toList.take n) (c.data.toList.take n)) = _ at hX
    obtain ⟨A, hA⟩ : ∃ A, Dg.crc (a.data.toList.take n) = A := ⟨_, rfl⟩
    obtain ⟨B, hB⟩ : ∃ A, Dg.crc (b.data.toList.take n) = A := ⟨_, rfl⟩
    obtain ⟨C, hC⟩ : ∃ A, Dg.crc (c.data.toList.take n) = A := ⟨_, rfl⟩
    rw [hA, hB, hC] at hX
    have CA := Lib.hid (fun (m : Nat) (w0 : World) (h : Env w0) => crc_at (a.extract 0 n) (by rw [Lib.size_eq, lA]; simp; omega) A (by rw [lA]; exact hA) m w0 h)
    have CB := Lib.hid (fun (m : Nat) (w0 : World) (h : Env w0) => crc_at (b.extract 0 n) (by rw [Lib.size_eq, lB]; simp; omega) B (by rw [lB]; exact hB) m w0 h)
    have CC := Lib.hid (fun (m : Nat) (w0 : World) (h : Env w0) => crc_at (c.extract 0 n) (by rw [Lib.size_eq, lC]; simp; omega) C (by rw [lC]; exact hC) m w0 h)
    obtain ⟨XB, hXB⟩ : ∃ X : ByteArray, (⟨(Dg.xor3 (a.data.toList.take n) (b.data.toList.take n) (c.data.toList.take n)).toArray⟩ : ByteArray) = X := ⟨_, rfl⟩
    have lX : XB.data.toList = Dg.xor3 (a.data.toList.take n) (b.data.toList.take n) (c.data.toList.take n) := by rw [← hXB]
    have zX : XB.size ≤ 100000000 := by rw [Lib.size_eq, lX]; unfold Dg.xor3; simp; omega
    have CX := Lib.hid (fun (m : Nat) (w0 : World) (h : Env w0) => crc_at XB zX (A ^^^ B ^^^ C) (by rw [lX]; exact hX) m w0 h)
    have HXB := Lib.hid (show ∀ P : ByteArray → Prop, P ⟨(Dg.xor3 (a.data.toList.take n) (b.data.toList.take n) (c.data.toList.take n)).toArray⟩ → P XB from fun P h => by rw [← hXB]; exact h)
    have v1 := Dg.v_xor A B
    have v2 := Dg.v_xor (A ^^^ B) C
    obtain ⟨AB, hAB⟩ : ∃ x, A ^^^ B = x := ⟨_, rfl⟩
    rw [hAB] at v1 v2 CX
    obtain ⟨ABC, hABC⟩ : ∃ x, AB ^^^ C = x := ⟨_, rfl⟩
    rw [hABC] at v2 CX
    clear hX hA hB hC lA lB lC hXB lX zX hAB hABC hza hzb hzc
    go_enter Tryd.func7, Tryd.ntmps7
    go_wp2_with fail
    refine HS.out.mono ?_
    rintro e w1 ⟨rfl, hb⟩
    have HB := Lib.hid hb
    clear hb
    go_wp2_with fail
    go_loopw [9, 10] (fun v i wr => ∃ (k : Nat) (vv : Value) (L : List UInt8), vv = v ∧ i = .int .i64 k ∧ k ≤ n ∧ L.length = k ∧ Hid (L = Dg.xor3 (a.data.toList.take k) (b.data.toList.take k) (c.data.toList.take k)) ∧ Hid (BytesOf wr w.heap.size vv L) ∧ Hid (Below w.heap.size w wr)) (fun _ i _ => n - (intOf i).toNat)
    case atStart => exact ⟨0, _, [], rfl, rfl, by omega, rfl, (by first | exact trivial | (show _ = _; simp [Dg.xor3])), World.ownsRow_nil _ _ _ _, HB.out⟩
    case round =>
      clear HB
      obtain ⟨k, v, L, rfl, rfl, hk, hL, hinv, hown, hB⟩ := hrel
      by_cases hlt : k < n
      · obtain ⟨x, hx⟩ : ∃ x, a[k] = x := ⟨_, rfl⟩
        obtain ⟨y, hy⟩ : ∃ x, b[k] = x := ⟨_, rfl⟩
        obtain ⟨z, hz⟩ : ∃ x, c[k] = x := ⟨_, rfl⟩
        have hN := xor3_next a b c k (by omega) (by omega) (by omega)
        rw [← hinv.out] at hN
        have hN : Dg.xor3 (a.data.toList.take (k + 1)) (b.data.toList.take (k + 1)) (c.data.toList.take (k + 1)) = L ++ [x ^^^ y ^^^ z] := by
          rw [hN, hx, hy, hz]
        have x1 := xor8 x y
        have x2 := xor8 (x ^^^ y) z
        obtain ⟨xy, hxy⟩ : ∃ q, x ^^^ y = q := ⟨_, rfl⟩
        rw [hxy] at x1 x2 hN
        obtain ⟨q, hq⟩ : ∃ q, xy ^^^ z = q := ⟨_, rfl⟩
        rw [hq] at x2 hN
        have HN := Lib.hid (show ∀ P : List UInt8 → Prop, P (Dg.xor3 (a.data.toList.take (k + 1)) (b.data.toList.take (k + 1)) (c.data.toList.take (k + 1))) → P (L ++ [q]) from fun P h => by rw [← hN]; exact h)
        clear hN hxy hq hinv
        go_wp2_with fail
        go_region_held3 (fun _ => True) (trivial) ((refine step_append_bytes (by rfl) _ _ (by rfl) w.heap.size _ L (by rfl) (BytesOf.allocDrew hown.out _) ⟨wr.heap.size, 0, none⟩ 1 1 [q] (by rfl) rfl (cells_newDrew wr (bv [q]) _) (by omega) (Nat.le_trans hB.out.size (by first | exact Nat.le_succ _ | simp)) ?_; intro v1 w3 hown1 hgrow))
        all_goals
          have HO1 := Lib.hid hown1
          have HB1 := Lib.hid (below_grown (below_drew (below_alloc hB.out (Nat.le_refl _) _)) (BytesOf.allocDrew hown.out _) hgrow (Nat.le_refl _) (Nat.le_refl _))
          clear hown1 hgrow
          go_wp2
          go_roundw
          case rel => exact ⟨k + 1, v1, L ++ [q], rfl, by go_num, by omega, by rw [List.length_append, hL]; rfl, (by show _ = _; exact HN.out (fun t => t = _) rfl), HO1.out, HB1.out⟩
          case measure => simp [intOf]; omega
      · obtain rfl : k = n := by omega
        have hcv : ∀ m : Nat, (convert 31 9 v).run Tryd.prog (wr.drewN m) = .ok (.string XB) (wr.drewN m) := fun m => by
          have h := hown.out
          rw [hinv.out] at h
          exact HXB.out (fun o => (convert 31 9 v).run Tryd.prog (wr.drewN m) = .ok (.string o) (wr.drewN m)) (h.drews m).back
        have HEr := Lib.hid (HE.out.new hB.out)
        clear hinv hown
        go_wp2_with fail
        go_quiet (first | (go_at_call 19; first | with_reducible exact CX.out _ _ HEr.out | with_reducible exact CA.out _ _ HEr.out | with_reducible exact CB.out _ _ HEr.out | with_reducible exact CC.out _ _ HEr.out))
        go_wp2
        go_ret
        exact ⟨rfl, below_drewN hB.out _⟩
end Go.Proofs.YtdiolhhfbllfeaaDoor
