/-
  Mac.
-/
import Derived.Test.YteiabaddmclmlaaDoorDSum
import Derived.Test.YteiabaddmclmlaaDoorDOwn
namespace Go.Proofs.YteiabaddmclmlaaDoor
open Go Go.RowKit Go.Shelf
namespace Dg
def xorB (b : UInt8) (l : List UInt8) : List UInt8 := l.map (· ^^^ b)
/-- The key that is masked: of 64 bytes. -/
def kp (k : List UInt8) : List UInt8 := k ++ List.replicate (64 - k.length) 0
def keyOf (k : List UInt8) : List UInt8 := if 64 < k.length then sha k else k
def mac1 (k s : List UInt8) : List UInt8 := sha (xorB 92 (kp k) ++ sha (xorB 54 (kp k) ++ s))
def mac (k s : List UInt8) : List UInt8 := mac1 (keyOf k) s
theorem xorB_length (b : UInt8) (l : List UInt8) : (xorB b l).length = l.length := by simp [xorB]
theorem kp_length (k : List UInt8) (h : k.length ≤ 64) : (kp k).length = 64 := by simp [kp]; omega
theorem xor92 (c : UInt8) : bits .xor .u8 (c.toNat : Int) 92 = ((c ^^^ 92).toNat : Int) := by
  have H : ∀ k : Fin 256, bits .xor .u8 ((UInt8.ofNat k.val).toNat : Int) 92 = ((UInt8.ofNat k.val ^^^ 92).toNat : Int) := by decide +kernel
  have := H ⟨c.toNat, UInt8.toNat_lt c⟩
  simpa using this
theorem xor54 (c : UInt8) : bits .xor .u8 (c.toNat : Int) 54 = ((c ^^^ 54).toNat : Int) := by
  have H : ∀ k : Fin 256, bits .xor .u8 ((UInt8.ofNat k.val).toNat : Int) 54 = ((UInt8.ofNat k.val ^^^ 54).toNat : Int) := by decide +kernel
  have := H ⟨c.toNat, UInt8.toNat_lt c⟩
  simpa using this
/-- The first k bytes masked. -/
def part (b : UInt8) (P : List UInt8) (k : Nat) : List UInt8 := xorB b (P.take k) ++ P.drop k
theorem part_zero (b : UInt8) (P : List UInt8) : part b P 0 = P := by simp [part, xorB]
theorem part_all (b : UInt8) (P : List UInt8) (k : Nat) (h : P.length ≤ k) : part b P k = xorB b P := by
  unfold part
  rw [List.take_of_length_le h, List.drop_of_length_le h, List.append_nil]
theorem part_at (b : UInt8) (P : List UInt8) (k : Nat) (h : k < P.length) : (bv (part b P k))[k]? = some (.int .u8 ((P.getD k 0).toNat : Int)) := by
  have hl : (xorB b (P.take k)).length = k := by rw [xorB_length]; simp; omega
  unfold part bv
  rw [List.map_append, List.getElem?_append_right (by simp [hl]), List.length_map, hl, Nat.sub_self, List.getElem?_map, List.getElem?_drop]
  simp [h]
theorem part_set (b : UInt8) (P : List UInt8) (k : Nat) (h : k < P.length) : (bv (part b P k)).set k (.int .u8 ((P.getD k 0 ^^^ b).toNat : Int)) = bv (part b P (k + 1)) := by
  have hl : (xorB b (P.take k)).length = k := by rw [xorB_length]; simp; omega
  unfold part bv
  rw [List.map_append, List.set_append_right _ _ (by simp [hl]), List.length_map, hl, Nat.sub_self, List.drop_eq_getElem_cons h, List.map_cons, List.set_cons_zero, List.take_succ_eq_append_getElem h]
  have e : P.getD k 0 = P[k] := by simp [h]
  rw [e]
  unfold xorB
  simp only [List.map_append, List.map_cons, List.map_nil, List.append_assoc, List.cons_append, List.nil_append]
end Dg
theorem bytes_append (a b : ByteArray) : (a ++ b).data.toList = a.data.toList ++ b.data.toList := by simp
theorem below_drews {B : Nat} {a w : World} (h : Below B a w) (n : Nat) : Below B a (w.drewN n) := below_drewN h n
theorem conv_later {w0 : World} {g : Nat} {t : TypeId} {l : List UInt8} (h : Blk w0 g t (bv l)) (hl : l.length = 64) {w' : World} (hb : Below w0.heap.size w0 w') :
    (convert 43 9 (.slice (some ⟨g, 0, none⟩) 64 64)).run Tryd.prog w' = .ok (.string ⟨l.toArray⟩) w' := conv_blk (h.below hb) hl
set_option maxHeartbeats 4000000 in
set_option maxRecDepth 100000 in
theorem mac_any (key s : ByteArray) (hk : key.size ≤ 10000000) (hs : s.size ≤ 10000000) (w : World) (hE : Env w) :
    Calls Tryd.prog 25 #[.string key, .string s] w fun e w' => e = .returned (.string ⟨(Dg.mac key.data.toList s.data.toList).toArray⟩) ∧ Below w.heap.size w w' := by
  have HE := Lib.hid hE
  clear hE
  have hkz := Lib.hid (Lib.size_eq key)
  have hsz := Lib.hid (Lib.size_eq s)
  obtain ⟨R, hR⟩ : ∃ R, Dg.mac key.data.toList s.data.toList = R := ⟨_, rfl⟩
  have HR := Lib.hid (show ∀ P : List UInt8 → Prop, P (Dg.mac1 (Dg.keyOf key.data.toList) s.data.toList) → P R from fun P h => by rw [← hR]; exact h)
  rw [hR]
  clear hR
  by_cases h64 : 64 < key.size
  · have HS0 := Lib.hid (sum_any key (by omega) w HE.out)
    have hKl := Dg.sha_length key.data.toList
    obtain ⟨K, hKD⟩ : ∃ D : ByteArray, (⟨(Dg.sha key.data.toList).toArray⟩ : ByteArray) = D := ⟨_, rfl⟩
    have hKeq : Dg.sha key.data.toList = K.data.toList := by rw [← hKD]
    rw [hKD] at HS0
    rw [hKeq] at hKl
    have hK64 : K.size ≤ 64 := by rw [Lib.size_eq]; omega
    have HK : Hid (Dg.keyOf key.data.toList = K.data.toList) := by
      show _ = _
      unfold Dg.keyOf
      rw [if_pos (by rw [← hkz.out]; exact h64), hKeq]
    clear hKD hKeq hKl
    go_enter Tryd.func25, Tryd.ntmps25
    go_wp2_with fail
    refine HS0.out.mono ?_
    rintro e w1 ⟨rfl, hb0⟩
    have HB0 := Lib.hid hb0
    clear hb0 HS0
    have HB1' := Lib.hid (show Below w.heap.size w ((w1.alloc (.cells (bv (List.replicate 64 0)).toArray 51)).alloc (.cells (bv (List.replicate 64 0)).toArray 51)) from below_alloc (below_alloc HB0.out (Nat.le_refl _) _) (Nat.le_refl _) _)
    have HO := Lib.hid ((Blk.made w1 (bv (List.replicate 64 0)).toArray 51).below (below_alloc (Below.refl _ _) (Nat.le_refl _) (.cells (bv (List.replicate 64 0)).toArray 51)))
    have HI := Blk.made (w1.alloc (.cells (bv (List.replicate 64 0)).toArray 51)) (bv (List.replicate 64 0)).toArray 51
    rw [alloc_size] at HI
    have HI := Lib.hid HI
    obtain ⟨p, hp⟩ : ∃ p, w1.heap.size = p := ⟨_, rfl⟩
    have hww : w.heap.size ≤ p := by rw [← hp]; exact HB0.out.size
    rw [hp] at HO HI
    have hall := fun w' : World => all64 p w'
    have hall2 := fun w' : World => all64 (p + 1) w'
    obtain ⟨P, hP⟩ : ∃ P, Dg.kp K.data.toList = P := ⟨_, rfl⟩
    have hPl : P.length = 64 := by rw [← hP]; exact Dg.kp_length _ (by rw [← Lib.size_eq]; exact hK64)
    have hcp : K.data.toList.take 64 ++ (List.replicate 64 (0 : UInt8)).drop K.size = P := by
      rw [← hP, List.take_of_length_le (by rw [← Lib.size_eq]; exact hK64), List.drop_replicate, Lib.size_eq]
      rfl
    have HP := Lib.hid (show ∀ Q : List UInt8 → Prop, Q (Dg.sha (Dg.xorB 92 P ++ Dg.sha (Dg.xorB 54 P ++ s.data.toList))) → Q R from fun Q h => HR.out Q (by unfold Dg.mac1; rw [HK.out, hP]; exact h))
    have HCP := Lib.hid (show ∀ Q : List UInt8 → Prop, Q (K.data.toList.take 64 ++ (List.replicate 64 (0 : UInt8)).drop K.size) → Q P from fun Q h => by rw [← hcp]; exact h)
    clear hP hcp HR
    go_wp2_with (first
      | (refine wpList_copy_str rfl (.tmp 13) (.tmp 14) rfl p 64 64 K (by rfl) (by rfl) 51 (List.replicate 64 0) HO.out rfl ?_; intro w3 h4 h5)
      | (refine wpList_copy_str rfl (.tmp 16) (.tmp 17) rfl (p + 1) 64 64 K (by rfl) (by rfl) 51 (List.replicate 64 0) (HI.out.other h5.out (by omega)) rfl ?_; intro w4 h6 h7))
    have H4 := Lib.hid (HCP.out (fun c => Blk w4 p 51 (bv c)) (h4.out.other h7.out (by omega)))
    have H6 := Lib.hid (HCP.out (fun c => Blk w4 (p + 1) 51 (bv c)) h6.out)
    have HB4 : Hid (Below w.heap.size w w4) := (HB1'.out.trans (Gr.below h5.out HB1'.out.size hww)).trans (Gr.below h7.out (Nat.le_trans HB1'.out.size h5.out.size) (by omega))
    clear h4 h5 h6 h7 HO HI HB1' HCP
    go_loopw [19] (fun i wr => ∃ k : Nat, i = .int .i64 k ∧ k ≤ 64 ∧ Hid (Blk wr p 51 (bv (Dg.part 92 P k))) ∧ Hid (Blk wr (p + 1) 51 (bv (Dg.part 54 P k))) ∧ Hid (Below w.heap.size w wr)) (fun i _ => 64 - (intOf i).toNat)
    case atStart => exact ⟨0, rfl, by omega, (by rw [Dg.part_zero]; exact H4.out), (by rw [Dg.part_zero]; exact H6.out), HB4.out⟩
    case round =>
      clear H4 H6 HB4
      obtain ⟨k, rfl, hk, h1, h2, h3⟩ := hrel
      by_cases hlt : k < 64
      · have c1 := h1.out.cell (Dg.part_at 92 P k (by omega))
        have c2 := h2.out.cell (Dg.part_at 54 P k (by omega))
        have f1 := h1.out.free k
        have f2 := h2.out.free k
        have ps1 := Dg.part_set 92 P k (by omega)
        have ps2 := Dg.part_set 54 P k (by omega)
        obtain ⟨c, hc⟩ : ∃ c, P.getD k 0 = c := ⟨_, rfl⟩
        rw [hc] at c1 c2 ps1 ps2
        clear hc
        have x1 := Dg.xor92 c
        have x2 := Dg.xor54 c
        have PS1 := Lib.hid (((h1.out.set k (.int .u8 ((c ^^^ 92).toNat : Int))).other (Gr.set (g := p + 1) _ k (.int .u8 ((c ^^^ 54).toNat : Int))) (by omega)).as ps1)
        have PS2 := Lib.hid (((h2.out.other (Gr.set (g := p) _ k (.int .u8 ((c ^^^ 92).toNat : Int))) (by omega)).set k (.int .u8 ((c ^^^ 54).toNat : Int))).as ps2)
        have HB5 := Lib.hid (Gr.below_set (Gr.below_set (o := k) (v := .int .u8 ((c ^^^ 92).toNat : Int)) h3.out hww) (g := p + 1) (o := k) (v := .int .u8 ((c ^^^ 54).toNat : Int)) (by omega))
        obtain ⟨d1, hd1⟩ : ∃ d, c ^^^ 92 = d := ⟨_, rfl⟩
        obtain ⟨d2, hd2⟩ : ∃ d, c ^^^ 54 = d := ⟨_, rfl⟩
        rw [hd1] at x1 PS1 PS2 HB5
        rw [hd2] at x2 PS1 PS2 HB5
        clear ps1 ps2 hd1 hd2
        go_wp2
        go_roundw
        case rel => exact ⟨k + 1, by go_num, by omega, PS1.out, PS2.out, HB5.out⟩
        case measure => simp [intOf]; omega
      · obtain rfl : k = 64 := by omega
        have g1 := h1.out
        have g2 := h2.out
        rw [Dg.part_all 92 P 64 (by omega)] at g1
        rw [Dg.part_all 54 P 64 (by omega)] at g2
        have l1 : (Dg.xorB 92 P).length = 64 := by rw [Dg.xorB_length, hPl]
        have l2 : (Dg.xorB 54 P).length = 64 := by rw [Dg.xorB_length, hPl]
        have hO := fun (w' : World) (hb : Below wr.heap.size wr w') => conv_later g1 l1 hb
        have hI := conv_later g2 l2 (below_drew (Below.refl _ _))
        obtain ⟨OB, hOB⟩ : ∃ B : ByteArray, (⟨(Dg.xorB 92 P).toArray⟩ : ByteArray) = B := ⟨_, rfl⟩
        obtain ⟨IB, hIB⟩ : ∃ B : ByteArray, (⟨(Dg.xorB 54 P).toArray⟩ : ByteArray) = B := ⟨_, rfl⟩
        have lO : OB.data.toList = Dg.xorB 92 P := by rw [← hOB]
        have lI : IB.data.toList = Dg.xorB 54 P := by rw [← hIB]
        rw [hOB] at hO
        rw [hIB] at hI
        have zI : (IB ++ s).size ≤ 100000000 := by rw [Lib.size_eq, bytes_append, List.length_append, lI, l2, ← hsz.out]; omega
        have S1 := Lib.hid (sum_any (IB ++ s) zI wr.drew (HE.out.new (below_drew (h3.out.mono (Nat.le_refl _)))))
        obtain ⟨DI, hDI⟩ : ∃ B : ByteArray, (⟨(Dg.sha (IB ++ s).data.toList).toArray⟩ : ByteArray) = B := ⟨_, rfl⟩
        have lD : DI.data.toList = Dg.sha (IB ++ s).data.toList := by rw [← hDI]
        rw [hDI] at S1
        have zO : (OB ++ DI).size ≤ 100000000 := by rw [Lib.size_eq, bytes_append, List.length_append, lO, l1, lD, Dg.sha_length]; omega
        have S2 := Lib.hid (fun (w5 : World) (hb : Below wr.heap.size wr w5) => sum_any (OB ++ DI) zO w5 (HE.out.new (h3.out.trans (hb.mono h3.out.size))))
        have HV : Hid (Dg.sha (OB.data.toList ++ DI.data.toList) = Dg.sha (Dg.xorB 92 P ++ Dg.sha (Dg.xorB 54 P ++ s.data.toList))) := by
          show _ = _
          rw [lO, lD, bytes_append, lI]
        have HOC := Lib.hid hO
        have hO1 := hO wr.drew (below_drew (Below.refl _ _))
        have q1 : IB.size ≤ 64 := by rw [Lib.size_eq, lI, l2]; omega
        have q2 : OB.size ≤ 64 := by rw [Lib.size_eq, lO, l1]; omega
        have q3 : DI.size ≤ 32 := by rw [Lib.size_eq, lD, Dg.sha_length]; omega
        clear hOB hIB lO lI hDI lD zI zO g1 g2 l1 l2 hO h1 h2
        go_wp2_with fail
        go_region_with (go_at_call 15; first | (refine (S2.out _ hB5).mono ?_; rintro e w6 ⟨rfl, hB6⟩) | (refine S1.out.mono ?_; rintro e w5 ⟨rfl, hB4⟩; have hB5 := (below_drew (Below.refl wr.heap.size wr)).trans hB4; have hO5 := HOC.out w5 hB5))
        all_goals
          have HB7 := Lib.hid (h3.out.trans ((hB5.trans (hB6.mono hB5.size)).mono h3.out.size))
          clear hB4 hB5 hB6
          go_wp2
          go_ret
          exact ⟨HP.out (fun t => Ending.returned (.string ⟨(Dg.sha (OB.data.toList ++ DI.data.toList)).toArray⟩) = .returned (.string ⟨t.toArray⟩)) (by rw [HV.out]), HB7.out⟩
  · have hK64 : key.size ≤ 64 := by omega
    have HK : Hid (Dg.keyOf key.data.toList = key.data.toList) := by
      show _ = _
      unfold Dg.keyOf
      rw [if_neg (by rw [← hkz.out]; exact h64)]
    have HB0 : Hid (Below w.heap.size w w) := Below.refl _ _
    obtain ⟨K, hKD⟩ : ∃ K, key = K := ⟨_, rfl⟩
    subst hKD
    go_enter Tryd.func25, Tryd.ntmps25
    have HB1' := Lib.hid (show Below w.heap.size w ((w.alloc (.cells (bv (List.replicate 64 0)).toArray 51)).alloc (.cells (bv (List.replicate 64 0)).toArray 51)) from below_alloc (below_alloc HB0.out (Nat.le_refl _) _) (Nat.le_refl _) _)
    have HO := Lib.hid ((Blk.made w (bv (List.replicate 64 0)).toArray 51).below (below_alloc (Below.refl _ _) (Nat.le_refl _) (.cells (bv (List.replicate 64 0)).toArray 51)))
    have HI := Blk.made (w.alloc (.cells (bv (List.replicate 64 0)).toArray 51)) (bv (List.replicate 64 0)).toArray 51
    rw [alloc_size] at HI
    have HI := Lib.hid HI
    obtain ⟨p, hp⟩ : ∃ p, w.heap.size = p := ⟨_, rfl⟩
    have hww : w.heap.size ≤ p := by rw [← hp]; exact HB0.out.size
    rw [hp] at HO HI
    have hall := fun w' : World => all64 p w'
    have hall2 := fun w' : World => all64 (p + 1) w'
    obtain ⟨P, hP⟩ : ∃ P, Dg.kp key.data.toList = P := ⟨_, rfl⟩
    have hPl : P.length = 64 := by rw [← hP]; exact Dg.kp_length _ (by rw [← Lib.size_eq]; exact hK64)
    have hcp : key.data.toList.take 64 ++ (List.replicate 64 (0 : UInt8)).drop key.size = P := by
      rw [← hP, List.take_of_length_le (by rw [← Lib.size_eq]; exact hK64), List.drop_replicate, Lib.size_eq]
      rfl
    have HP := Lib.hid (show ∀ Q : List UInt8 → Prop, Q (Dg.sha (Dg.xorB 92 P ++ Dg.sha (Dg.xorB 54 P ++ s.data.toList))) → Q R from fun Q h => HR.out Q (by unfold Dg.mac1; rw [HK.out, hP]; exact h))
    have HCP := Lib.hid (show ∀ Q : List UInt8 → Prop, Q (key.data.toList.take 64 ++ (List.replicate 64 (0 : UInt8)).drop key.size) → Q P from fun Q h => by rw [← hcp]; exact h)
    clear hP hcp HR
    go_wp2_with (first
      | (refine wpList_copy_str rfl (.tmp 13) (.tmp 14) rfl p 64 64 key (by rfl) (by rfl) 51 (List.replicate 64 0) HO.out rfl ?_; intro w3 h4 h5)
      | (refine wpList_copy_str rfl (.tmp 16) (.tmp 17) rfl (p + 1) 64 64 key (by rfl) (by rfl) 51 (List.replicate 64 0) (HI.out.other h5.out (by omega)) rfl ?_; intro w4 h6 h7))
    have H4 := Lib.hid (HCP.out (fun c => Blk w4 p 51 (bv c)) (h4.out.other h7.out (by omega)))
    have H6 := Lib.hid (HCP.out (fun c => Blk w4 (p + 1) 51 (bv c)) h6.out)
    have HB4 : Hid (Below w.heap.size w w4) := (HB1'.out.trans (Gr.below h5.out HB1'.out.size hww)).trans (Gr.below h7.out (Nat.le_trans HB1'.out.size h5.out.size) (by omega))
    clear h4 h5 h6 h7 HO HI HB1' HCP
    go_loopw [19] (fun i wr => ∃ k : Nat, i = .int .i64 k ∧ k ≤ 64 ∧ Hid (Blk wr p 51 (bv (Dg.part 92 P k))) ∧ Hid (Blk wr (p + 1) 51 (bv (Dg.part 54 P k))) ∧ Hid (Below w.heap.size w wr)) (fun i _ => 64 - (intOf i).toNat)
    case atStart => exact ⟨0, rfl, by omega, (by rw [Dg.part_zero]; exact H4.out), (by rw [Dg.part_zero]; exact H6.out), HB4.out⟩
    case round =>
      clear H4 H6 HB4
      obtain ⟨k, rfl, hk, h1, h2, h3⟩ := hrel
      by_cases hlt : k < 64
      · have c1 := h1.out.cell (Dg.part_at 92 P k (by omega))
        have c2 := h2.out.cell (Dg.part_at 54 P k (by omega))
        have f1 := h1.out.free k
        have f2 := h2.out.free k
        have ps1 := Dg.part_set 92 P k (by omega)
        have ps2 := Dg.part_set 54 P k (by omega)
        obtain ⟨c, hc⟩ : ∃ c, P.getD k 0 = c := ⟨_, rfl⟩
        rw [hc] at c1 c2 ps1 ps2
        clear hc
        have x1 := Dg.xor92 c
        have x2 := Dg.xor54 c
        have PS1 := Lib.hid (((h1.out.set k (.int .u8 ((c ^^^ 92).toNat : Int))).other (Gr.set (g := p + 1) _ k (.int .u8 ((c ^^^ 54).toNat : Int))) (by omega)).as ps1)
        have PS2 := Lib.hid (((h2.out.other (Gr.set (g := p) _ k (.int .u8 ((c ^^^ 92).toNat : Int))) (by omega)).set k (.int .u8 ((c ^^^ 54).toNat : Int))).as ps2)
        have HB5 := Lib.hid (Gr.below_set (Gr.below_set (o := k) (v := .int .u8 ((c ^^^ 92).toNat : Int)) h3.out hww) (g := p + 1) (o := k) (v := .int .u8 ((c ^^^ 54).toNat : Int)) (by omega))
        obtain ⟨d1, hd1⟩ : ∃ d, c ^^^ 92 = d := ⟨_, rfl⟩
        obtain ⟨d2, hd2⟩ : ∃ d, c ^^^ 54 = d := ⟨_, rfl⟩
        rw [hd1] at x1 PS1 PS2 HB5
        rw [hd2] at x2 PS1 PS2 HB5
        clear ps1 ps2 hd1 hd2
        go_wp2
        go_roundw
        case rel => exact ⟨k + 1, by go_num, by omega, PS1.out, PS2.out, HB5.out⟩
        case measure => simp [intOf]; omega
      · obtain rfl : k = 64 := by omega
        have g1 := h1.out
        have g2 := h2.out
        rw [Dg.part_all 92 P 64 (by omega)] at g1
        rw [Dg.part_all 54 P 64 (by omega)] at g2
        have l1 : (Dg.xorB 92 P).length = 64 := by rw [Dg.xorB_length, hPl]
        have l2 : (Dg.xorB 54 P).length = 64 := by rw [Dg.xorB_length, hPl]
        have hO := fun (w' : World) (hb : Below wr.heap.size wr w') => conv_later g1 l1 hb
        have hI := conv_later g2 l2 (below_drew (Below.refl _ _))
        obtain ⟨OB, hOB⟩ : ∃ B : ByteArray, (⟨(Dg.xorB 92 P).toArray⟩ : ByteArray) = B := ⟨_, rfl⟩
        obtain ⟨IB, hIB⟩ : ∃ B : ByteArray, (⟨(Dg.xorB 54 P).toArray⟩ : ByteArray) = B := ⟨_, rfl⟩
        have lO : OB.data.toList = Dg.xorB 92 P := by rw [← hOB]
        have lI : IB.data.toList = Dg.xorB 54 P := by rw [← hIB]
        rw [hOB] at hO
        rw [hIB] at hI
        have zI : (IB ++ s).size ≤ 100000000 := by rw [Lib.size_eq, bytes_append, List.length_append, lI, l2, ← hsz.out]; omega
        have S1 := Lib.hid (sum_any (IB ++ s) zI wr.drew (HE.out.new (below_drew (h3.out.mono (Nat.le_refl _)))))
        obtain ⟨DI, hDI⟩ : ∃ B : ByteArray, (⟨(Dg.sha (IB ++ s).data.toList).toArray⟩ : ByteArray) = B := ⟨_, rfl⟩
        have lD : DI.data.toList = Dg.sha (IB ++ s).data.toList := by rw [← hDI]
        rw [hDI] at S1
        have zO : (OB ++ DI).size ≤ 100000000 := by rw [Lib.size_eq, bytes_append, List.length_append, lO, l1, lD, Dg.sha_length]; omega
        have S2 := Lib.hid (fun (w5 : World) (hb : Below wr.heap.size wr w5) => sum_any (OB ++ DI) zO w5 (HE.out.new (h3.out.trans (hb.mono h3.out.size))))
        have HV : Hid (Dg.sha (OB.data.toList ++ DI.data.toList) = Dg.sha (Dg.xorB 92 P ++ Dg.sha (Dg.xorB 54 P ++ s.data.toList))) := by
          show _ = _
          rw [lO, lD, bytes_append, lI]
        have HOC := Lib.hid hO
        have hO1 := hO wr.drew (below_drew (Below.refl _ _))
        have q1 : IB.size ≤ 64 := by rw [Lib.size_eq, lI, l2]; omega
        have q2 : OB.size ≤ 64 := by rw [Lib.size_eq, lO, l1]; omega
        have q3 : DI.size ≤ 32 := by rw [Lib.size_eq, lD, Dg.sha_length]; omega
        clear hOB hIB lO lI hDI lD zI zO g1 g2 l1 l2 hO h1 h2
        go_wp2_with fail
        go_region_with (go_at_call 15; first | (refine (S2.out _ hB5).mono ?_; rintro e w6 ⟨rfl, hB6⟩) | (refine S1.out.mono ?_; rintro e w5 ⟨rfl, hB4⟩; have hB5 := (below_drew (Below.refl wr.heap.size wr)).trans hB4; have hO5 := HOC.out w5 hB5))
        all_goals
          have HB7 := Lib.hid (h3.out.trans ((hB5.trans (hB6.mono hB5.size)).mono h3.out.size))
          clear hB4 hB5 hB6
          go_wp2
          go_ret
          exact ⟨HP.out (fun t => Ending.returned (.string ⟨(Dg.sha (OB.data.toList ++ DI.data.toList)).toArray⟩) = .returned (.string ⟨t.toArray⟩)) (by rw [HV.out]), HB7.out⟩
end Go.Proofs.YteiabaddmclmlaaDoor
