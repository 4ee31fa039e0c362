/-
  The reference's Inner, Along and Growing: the strings that are hashed.
-/
import Derived.Test.YteiabaddmclmlaaDoorMRefD
import Derived.Test.YteiabaddmclmlaaDoorMApp
import Derived.BigFrame
import Derived.OwnWalk
namespace Go.Proofs.YteiabaddmclmlaaDoor
open Go Go.RowKit Go.Shelf
theorem wpList_append_rows_want {w : World} {ops : Array Oper} {o : Oper} {a : Act} {Q : Exit → Act → World → Prop} {rest : List Oper} (hw : Region.wanted o (yielded ops a.tmps) = true) (s x : Operand) (ho : o.op = .call { callee := .builtin .append, args := #[s, x], argTypes := #[29, 29] })
    (base : Nat) (v : Value) (L : List (List UInt8)) (hs : a.eval s = v) (hown : SOwn w base v L) (base2 : Nat) (v2 : Value) (M : List (List UInt8)) (hx : a.eval x = v2) (hM : SOwn w base2 v2 M)
    (hbig : L.length + M.length ≤ 1000000000) (hbase : base ≤ w.heap.size)
    (h : ∀ v' w', SOwn w' base v' (L ++ M) → w.grownBy w' v.ownBlock → wpList Tryd.prog ops Q rest (a.put o.dst v') w') : wpList Tryd.prog ops Q (o :: rest) a w :=
  BigFrame.wpList_want hw fun K hK => wp_append_rows s x ho base v L hs hown base2 v2 M hx hM hbig hbase fun v' w' h2 h3 => hK _ _ (h v' w' h2 h3)
theorem add_one (x : UInt8) (a : ByteArray) (h : a.size ≤ 10000000) : (⟨#[x]⟩ : ByteArray).size + a.size ≤ 9223372036854775807 := by
  have : (⟨#[x]⟩ : ByteArray).size = 1 := rfl
  omega
theorem add_two (x : UInt8) (a b : ByteArray) (h : a.size ≤ 10000000) (h2 : b.size ≤ 10000000) : ((⟨#[x]⟩ : ByteArray) ++ a).size + b.size ≤ 9223372036854775807 := by
  rw [ByteArray.size_append]
  have : (⟨#[x]⟩ : ByteArray).size = 1 := rfl
  omega
theorem pre_join (a b : ByteArray) : (((⟨#[1]⟩ : ByteArray) ++ a) ++ b).data.toList = 1 :: (a.data.toList ++ b.data.toList) := by
  rw [bytes_append, bytes_append]; rfl
set_option maxHeartbeats 8000000 in
set_option maxRecDepth 100000 in
theorem rinner_any : ∀ (N : Nat) (X : List (List UInt8)) (n : Nat) (_ : X.length = n) (_ : n ≤ N) (_ : N ≤ 1000000) (_ : ∀ x ∈ X, x.length ≤ 40) (xa : Option Addr) (b off cap : Nat) (w : World) (_ : Lv w xa b off cap X),
    Calls Tryd.prog 46 #[.slice xa n cap] w fun e w' => ∃ v, e = .returned v ∧ SOwn w' w.heap.size v (Mk.inner X) ∧ Below w.heap.size w w' := by
  intro N
  induction N with
  | zero =>
    intro X n hn hN _ _ xa b off cap w hL
    obtain rfl : n = 0 := by omega
    have HI := Lib.hid (Mk.inner_few (X := X) (by omega))
    clear hL hn hN
    go_enter Tryd.func46, Tryd.ntmps46
    go_wp2_with fail
    go_ret
    exact ⟨_, rfl, by rw [HI.out]; exact SOwn.nil _ _, Below.refl _ _⟩
  | succ N ih =>
    intro X n hn hN hN2 hX xa b off cap w hL
    by_cases h2 : 2 ≤ n
    case neg =>
      have HI := Lib.hid (Mk.inner_few (X := X) (by omega))
      have d1 : (n : Int) < 2 := by omega
      clear hL hn hN ih hX
      go_enter Tryd.func46, Tryd.ntmps46
      go_wp2_with fail
      go_ret
      exact ⟨_, rfl, by rw [HI.out]; exact SOwn.nil _ _, Below.refl _ _⟩
    have IH := Lib.hid ih
    have HL := Lib.hid hL
    clear ih hL
    obtain rfl := HL.out.at_ (by omega)
    have d1 : ¬ (n : Int) < 2 := by omega
    have hk1 := Mk.split_lt h2
    have hk0 := Mk.split_pos n
    have hI := Mk.inner_many (X := X) (by omega)
    rw [hn] at hI
    have HK := Lib.hid (fun w' : World => rsplit_any n h2 (by omega) w')
    obtain ⟨k, hk⟩ : ∃ k, Mk.split n = k := ⟨_, rfl⟩
    rw [hk] at hk0 hk1 HK hI
    have hcap := HL.out.le
    have hcap2 : n ≤ cap := by omega
    have b1 : (0 : Int) ≤ (k : Int) := by omega
    have b2 : (k : Int) ≤ (n : Int) := by omega
    have b3 : (k : Int) ≤ (cap : Int) := by omega
    have b4 : (n : Int) ≤ (cap : Int) := by omega
    have b5 : k ≤ n := by omega
    have b6 : k ≤ cap := by omega
    have b7 : ¬ cap = k := by omega
    have hXt : ∀ x ∈ X.take k, x.length ≤ 40 := fun x hx => hX x (List.mem_of_mem_take hx)
    have hXd : ∀ x ∈ X.drop k, x.length ≤ 40 := fun x hx => hX x (List.mem_of_mem_drop hx)
    obtain ⟨R1, hR1⟩ : ∃ R : ByteArray, Mk.root (X.take k) = R.data.toList := ⟨⟨(Mk.root (X.take k)).toArray⟩, rfl⟩
    obtain ⟨R2, hR2⟩ : ∃ R : ByteArray, Mk.root (X.drop k) = R.data.toList := ⟨⟨(Mk.root (X.drop k)).toArray⟩, rfl⟩
    have lt1 : (X.take k).length = k := by rw [List.length_take]; omega
    have ld1 : (X.drop k).length = n - k := by rw [List.length_drop]; omega
    have l1 := Mk.inner_len N (X.take k) (by omega)
    have l2 := Mk.inner_len N (X.drop k) (by omega)
    obtain ⟨I1, hI1⟩ : ∃ I, Mk.inner (X.take k) = I := ⟨_, rfl⟩
    obtain ⟨I2, hI2⟩ : ∃ I, Mk.inner (X.drop k) = I := ⟨_, rfl⟩
    rw [hI1] at l1
    rw [hI2] at l2
    rw [hI1, hI2, hR1, hR2, ← pre_join] at hI
    have HP := Lib.hid (show ∀ T : List (List UInt8) → Prop, T ((I1 ++ I2) ++ [(((⟨#[1]⟩ : ByteArray) ++ R1) ++ R2).data.toList]) → T (Mk.inner X) from fun T h => by rw [hI]; exact h)
    have S1 := Lib.hid (fun (w5 : World) (hb : Below w.heap.size w w5) => (IH.out (X.take k) k lt1 (by omega) (by omega) hXt _ b off cap w5 ((HL.out.take k).below hb)))
    have S2 := Lib.hid (fun (w5 : World) (hb : Below w.heap.size w w5) => (IH.out (X.drop k) (n - k) ld1 (by omega) (by omega) hXd _ b (off + k) (cap - k) w5 ((HL.out.drop k (by omega)).below hb)))
    rw [hI1] at S1
    rw [hI2] at S2
    have S3 := Lib.hid (fun (w5 : World) (hb : Below w.heap.size w w5) => rroot_to (X.take k) k lt1 (by omega) hXt R1 hR1 _ b off cap w5 ((HL.out.take k).below hb))
    have S4 := Lib.hid (fun (w5 : World) (hb : Below w.heap.size w w5) => rroot_to (X.drop k) (n - k) ld1 (by omega) hXd R2 hR2 _ b (off + k) (cap - k) w5 ((HL.out.drop k (by omega)).below hb))
    have hbig1 : I1.length + I2.length ≤ 1000000000 := by omega
    have hbig2 : (I1 ++ I2).length + 1 ≤ 1000000000 := by rw [List.length_append]; omega
    have z1 : R1.size ≤ 40 := by rw [Lib.size_eq, ← hR1]; exact Mk.root_len hXt
    have z2 : R2.size ≤ 40 := by rw [Lib.size_eq, ← hR2]; exact Mk.root_len hXd
    have hadd1 := fun w' : World => run_string_add_sum (P := Tryd.prog) (w := w') ⟨#[1]⟩ R1 (add_one 1 R1 (by omega))
    have hadd2 := fun w' : World => run_string_add_sum (P := Tryd.prog) (w := w') (⟨#[1]⟩ ++ R1) R2 (add_two 1 R1 R2 (by omega) (by omega))
    clear hcap hk hXt hXd hR1 hR2 hX hI hI1 hI2 lt1 ld1 hn l1 l2
    go_enter Tryd.func46, Tryd.ntmps46
    go_wp2_with fail
    refine (HK.out _).mono ?_
    rintro _ w' ⟨rfl, rfl⟩
    go_wp2_with fail
    go_region_held3 (fun _ => True) (trivial) ((first
      | (refine step_append_strs (by rfl) _ _ (by rfl) w'.heap.size _ (I1 ++ I2) (by rfl) (hO5.alloc _) ⟨w9.heap.size, 0, none⟩ 1 1 [(((⟨#[1]⟩ : ByteArray) ++ R1) ++ R2).data.toList] (by rfl) rfl (cells_new w9 (sv [(((⟨#[1]⟩ : ByteArray) ++ R1) ++ R2).data.toList]) _) hbig2 (Nat.le_trans hB5.size (by first | exact Nat.le_succ _ | simp)) ?_; intro v10 w10 hown hgrow)
      | (go_at_call 34; refine (S4.out _ hB4).mono ?_; rintro e w9 ⟨rfl, hB9⟩; have hB5 := hB4.trans (hB9.mono hB4.size); have hO5 := hO4.below hB9)
      | (go_at_call 34; refine (S3.out _ hB3).mono ?_; rintro e w8 ⟨rfl, hB8⟩; have hB4 := hB3.trans (hB8.mono hB3.size); have hO4 := hO3.below hB8)
      | (refine step_append_rows (by rfl) _ _ (by rfl) w'.heap.size _ I1 (by rfl) hO1b _ v6 I2 (by rfl) hO2 hbig1 hB2.size ?_; intro v7 w7 hO3 hg7; have hB3 := below_grown hB2 hO1b hg7 (Nat.le_refl _) (Nat.le_refl _))
      | (go_at_call 46; refine (S2.out _ hB1).mono ?_; rintro e w6 ⟨v6, rfl, hO2, hB6⟩; have hB2 := hB1.trans (hB6.mono hB1.size); have hO1b := hO1.below hB6)
      | (go_at_call 46; refine (S1.out _ (below_drew (Below.refl _ _))).mono ?_; rintro e w5 ⟨v5, rfl, hO1, hB5'⟩; have hB1 := (below_drew (Below.refl _ _)).trans hB5')
      | fail))
    all_goals
      have HO := Lib.hid (HP.out (fun t => SOwn w10 w'.heap.size v10 t) hown)
      have HB := Lib.hid (below_grown (below_alloc hB5 (Nat.le_refl _) _) (hO5.alloc _) hgrow (Nat.le_refl _) (Nat.le_refl _))
      clear hB1 hB2 hB3 hB4 hB5 hB5' hB6 hB8 hB9 hO1 hO1b hO2 hO3 hO4 hO5 hown hgrow hg7
      go_wp2
      go_ret
      exact ⟨v10, rfl, HO.out, HB.out⟩
end Go.Proofs.YteiabaddmclmlaaDoor
