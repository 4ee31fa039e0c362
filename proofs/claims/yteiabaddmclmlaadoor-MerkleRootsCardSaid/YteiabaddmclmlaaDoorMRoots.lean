/-
  hashed; the law MerkleRoots, walked.
-/
import Derived.Test.YteiabaddmclmlaaDoorMTells
import Derived.Test.YteiabaddmclmlaaDoorMInner
import Derived.Test.YteiabaddmclmlaaDoorMClashW
namespace Go.Proofs.YteiabaddmclmlaaDoor
open Go Go.RowKit Go.Shelf
def pre04 (x : List UInt8) : List UInt8 := 0 :: x
theorem pre_leaf (s : ByteArray) : ((⟨#[0]⟩ : ByteArray) ++ s).data.toList = 0 :: s.data.toList := by rw [bytes_append]; rfl
set_option maxHeartbeats 8000000 in
set_option maxRecDepth 100000 in
theorem hashed_any (L M : List (List UInt8)) (n m : Nat) (hn : L.length = n) (hm : M.length = m) (hN : n ≤ 1000) (hN2 : m ≤ 1000) (hL40 : ∀ x ∈ L, x.length ≤ 40) (hM40 : ∀ x ∈ M, x.length ≤ 40) (xa ya : Option Addr) (b off cap b' off' cap' : Nat) (w : World) (hL : Lv w xa b off cap L) (hL2 : Lv w ya b' off' cap' M) :
    Calls Tryd.prog 49 #[.slice xa n cap, .slice ya m cap'] w fun e w' => ∃ v, e = .returned v ∧ SOwn w' w.heap.size v (L.map pre04 ++ M.map pre04) ∧ Below w.heap.size w w' := by
  have HL := Lib.hid hL
  have HM := Lib.hid hL2
  have HN := Lib.hid hn
  have HNM := Lib.hid hm
  have H40 := Lib.hid hL40
  have HM40 := Lib.hid hM40
  clear hL hL2 hn hm hL40 hM40
  go_enter Tryd.func49, Tryd.ntmps49
  go_wp2
  go_loopw [5, 6] (fun o i wr => ∃ (k : Nat) (v : Value), o = v ∧ i = .int .i64 k ∧ k ≤ n ∧ Hid (SOwn wr w.heap.size v ((L.take k).map pre04)) ∧ Hid (Below w.heap.size w wr)) (fun _ i _ => n - (intOf i).toNat)
  case atStart => exact ⟨0, _, rfl, rfl, Nat.zero_le _, Lib.hid (SOwn.nil _ _), Lib.hid (Below.refl _ _)⟩
  case round =>
    obtain ⟨k, v, rfl, rfl, hk, hO, hB⟩ := hrel
    by_cases hlt : k < n
    · obtain rfl := HL.out.at_ (by rw [HN.out]; omega)
      have c := (HL.out.below hB.out).cell k (by rw [HN.out]; omega)
      obtain ⟨s, hs⟩ : ∃ s, encStr (L.getD k []) = .string s := ⟨_, rfl⟩
      rw [hs] at c
      obtain ⟨hs1, hz⟩ := encStr_size hs
      have hg : L.getD k [] ∈ L := by rw [Mk.getD_of (by rw [HN.out]; omega)]; exact List.getElem_mem _
      have hsz : s.size ≤ 40 := by rw [hz]; exact H40.out _ hg
      have HT := Lib.hid (show ∀ T : List (List UInt8) → Prop, T (((L.take k).map pre04) ++ [((⟨#[0]⟩ : ByteArray) ++ s).data.toList]) → T ((L.take (k + 1)).map pre04) from fun T h => by
        rw [List.take_add_one, List.map_append, show L[k]?.toList = [L.getD k []] from by rw [List.getD_eq_getElem?_getD, List.getElem?_eq_getElem (by rw [HN.out]; omega)]; rfl]
        rw [List.map_cons, List.map_nil, hs1]
        rw [pre_leaf] at h
        simpa only [List.append_assoc, pre04] using h)
      obtain ⟨P, hP⟩ : ∃ P, ((L.take k).map pre04) = P := ⟨_, rfl⟩
      have hPl : P.length ≤ 1000000 := by rw [← hP]; simp; omega
      rw [hP] at hO HT
      clear hs hs1 hz hg hP
      go_wp2_with (at_builtin; go_must (refine wpList_append_strs (by rfl) _ _ (by rfl) w.heap.size _ P (by rfl) (hO.out.alloc _) ⟨wr.heap.size, 0, none⟩ 1 1 [((⟨#[0]⟩ : ByteArray) ++ s).data.toList] (by rfl) rfl (cells_new wr (sv [((⟨#[0]⟩ : ByteArray) ++ s).data.toList]) _) (by omega) (Nat.le_trans hB.out.size (by first | exact Nat.le_succ _ | simp)) ?_); intro v1 w3 hown3 hgrow; have HO3 := Lib.hid (HT.out (fun t => SOwn w3 w.heap.size v1 t) hown3); have HB3 := Lib.hid (below_grown (below_alloc hB.out (Nat.le_refl _) _) (hO.out.alloc _) hgrow (Nat.le_refl _) (Nat.le_refl _)); clear hown3 hgrow)
      go_roundw
      case rel => exact ⟨k + 1, v1, rfl, by go_num, by omega, HO3, HB3⟩
      case measure => simp [intOf]; omega
    · obtain rfl : k = n := by omega
      have HT := Lib.hid (show ∀ T : List (List UInt8) → Prop, T ((L.take k).map pre04) → T (L.map pre04 ++ (M.take 0).map pre04) from fun T h => by rw [List.take_of_length_le (by rw [HN.out]; omega)] at h; simpa using h)
      have OA := Lib.hid (HT.out (fun t => SOwn wr w.heap.size _ t) hO.out)
      have BA := hB
      clear hO HT hB
      go_wp2
      go_loopw [5, 7] (fun o i wr => ∃ (k : Nat) (v : Value), o = v ∧ i = .int .i64 k ∧ k ≤ m ∧ Hid (SOwn wr w.heap.size v (L.map pre04 ++ (M.take k).map pre04)) ∧ Hid (Below w.heap.size w wr)) (fun _ i _ => m - (intOf i).toNat)
      case atStart => exact ⟨0, _, rfl, rfl, Nat.zero_le _, OA, BA⟩
      case round =>
        obtain ⟨k, v, rfl, rfl, hk, hO, hB⟩ := hrel
        by_cases hlt : k < m
        · obtain rfl := HM.out.at_ (by rw [HNM.out]; omega)
          have c := (HM.out.below hB.out).cell k (by rw [HNM.out]; omega)
          obtain ⟨s, hs⟩ : ∃ s, encStr (M.getD k []) = .string s := ⟨_, rfl⟩
          rw [hs] at c
          obtain ⟨hs1, hz⟩ := encStr_size hs
          have hg : M.getD k [] ∈ M := by rw [Mk.getD_of (by rw [HNM.out]; omega)]; exact List.getElem_mem _
          have hsz : s.size ≤ 40 := by rw [hz]; exact HM40.out _ hg
          have HT := Lib.hid (show ∀ T : List (List UInt8) → Prop, T ((L.map pre04 ++ (M.take k).map pre04) ++ [((⟨#[0]⟩ : ByteArray) ++ s).data.toList]) → T (L.map pre04 ++ (M.take (k + 1)).map pre04) from fun T h => by
            rw [List.take_add_one, List.map_append, show M[k]?.toList = [M.getD k []] from by rw [List.getD_eq_getElem?_getD, List.getElem?_eq_getElem (by rw [HNM.out]; omega)]; rfl]
            rw [List.map_cons, List.map_nil, hs1]
            rw [pre_leaf] at h
            simpa only [List.append_assoc, pre04] using h)
          obtain ⟨P, hP⟩ : ∃ P, (L.map pre04 ++ (M.take k).map pre04) = P := ⟨_, rfl⟩
          have hPl : P.length ≤ 1000000 := by rw [← hP]; simp; have := HN.out; have := HNM.out; omega
          rw [hP] at hO HT
          clear hs hs1 hz hg hP
          go_wp2_with (at_builtin; go_must (refine wpList_append_strs (by rfl) _ _ (by rfl) w.heap.size _ P (by rfl) (hO.out.alloc _) ⟨wr.heap.size, 0, none⟩ 1 1 [((⟨#[0]⟩ : ByteArray) ++ s).data.toList] (by rfl) rfl (cells_new wr (sv [((⟨#[0]⟩ : ByteArray) ++ s).data.toList]) _) (by omega) (Nat.le_trans hB.out.size (by first | exact Nat.le_succ _ | simp)) ?_); intro v1 w3 hown3 hgrow; have HO3 := Lib.hid (HT.out (fun t => SOwn w3 w.heap.size v1 t) hown3); have HB3 := Lib.hid (below_grown (below_alloc hB.out (Nat.le_refl _) _) (hO.out.alloc _) hgrow (Nat.le_refl _) (Nat.le_refl _)); clear hown3 hgrow)
          go_roundw
          case rel => exact ⟨k + 1, v1, rfl, by go_num, by omega, HO3, HB3⟩
          case measure => simp [intOf]; omega
        · obtain rfl : k = m := by omega
          have HT := Lib.hid (show ∀ T : List (List UInt8) → Prop, T (L.map pre04 ++ (M.take k).map pre04) → T (L.map pre04 ++ M.map pre04) from fun T h => by rw [List.take_of_length_le (by rw [HNM.out]; omega)] at h; exact h)
          go_wp2_with fail
          go_ret
          exact ⟨_, rfl, HT.out (fun t => SOwn _ w.heap.size _ t) hO.out, hB.out⟩
theorem clash_leaves : ∀ (L M : List (List UInt8)), L.length = M.length → L.map Mk.leaf = M.map Mk.leaf → L ≠ M → Mk.Clashes (L.map pre04 ++ M.map pre04)
  | [], [], _, _, hne => absurd rfl hne
  | [], _ :: _, h, _, _ => by simp at h
  | _ :: _, [], h, _, _ => by simp at h
  | x :: L, y :: M, h, he, hne => by
    simp only [List.map_cons, List.cons.injEq] at he
    by_cases hxy : x = y
    · have hLM : L ≠ M := fun h2 => hne (by rw [hxy, h2])
      refine (clash_leaves L M (by simpa using h) he.2 hLM).mono fun z hz => ?_
      simp only [List.mem_append, List.map_cons, List.mem_cons] at hz ⊢
      rcases hz with hz | hz
      · exact .inl (.inr hz)
      · exact .inr (.inr hz)
    · exact ⟨pre04 x, by simp, pre04 y, by simp, fun h2 => hxy (by unfold pre04 at h2; injection h2), he.1⟩
theorem roots_clash {L M : List (List UInt8)} (hl : L.length = M.length) (hne : L ≠ M) (hr : Mk.root (L.map Mk.leaf) = Mk.root (M.map Mk.leaf)) : Mk.Clashes ((Mk.inner (L.map Mk.leaf) ++ Mk.inner (M.map Mk.leaf)) ++ (L.map pre04 ++ M.map pre04)) := by
  have h32 : ∀ (Z : List (List UInt8)), ∀ x ∈ Z.map Mk.leaf, x.length = 32 := fun Z x hx => by
    obtain ⟨y, _, rfl⟩ := List.mem_map.1 hx
    exact Mk.leaf_len y
  rcases Mk.roots _ _ _ (Nat.le_refl _) (by rw [List.length_map, List.length_map, hl]) (h32 L) (h32 M) hr with h | h
  · exact (clash_leaves L M hl h hne).mono fun z hz => List.mem_append.2 (.inr hz)
  · exact h.mono fun z hz => List.mem_append.2 (.inl hz)
set_option maxHeartbeats 20000000 in
set_option maxRecDepth 100000 in
theorem mroots_law (L M : List (List UInt8)) (n m : Nat) (hn : L.length = n) (hm : M.length = m) (hN : n ≤ 9223372036854775807) (hM : m ≤ 9223372036854775807)
    (xa ya : Option Addr) (b off cap b' off' cap' : Nat) (w : World) (hL : Lv w xa b off cap L) (hL2 : Lv w ya b' off' cap' M) (hE : Env w) :
    Calls Tryd.prog 7 #[.slice xa n cap, .slice ya m cap'] w fun e w' => e = .returned (.bool true) ∧ Below w.heap.size w w' := by
  have HS := Lib.hid (small04_any w hE)
  have HL := Lib.hid hL
  have HM := Lib.hid hL2
  have HE := Lib.hid hE
  have F1 := Lib.hid (fun W (hb : Below w.heap.size w W) => few_no n hn hN xa b off cap W (hL.below hb) _ rfl)
  have F2 := Lib.hid (fun W (hb : Below w.heap.size w W) => few_no m hm hM ya b' off' cap' W (hL2.below hb) _ rfl)
  clear hL hL2 hE
  cases f1 : Mk.few L with
  | false =>
    rw [f1] at F1
    clear f1 hn hm
    go_enter Tryd.func7, Tryd.ntmps7
    go_wp2_with fail
    refine HS.out.mono ?_
    rintro _ w1 ⟨rfl, hb⟩
    have B1 := Lib.hid hb
    clear hb
    go_wp2_with fail
    refine (F1.out _ B1.out).mono ?_
    rintro _ w2 ⟨rfl, rfl⟩
    go_wp2_with fail
    go_ret
    exact ⟨rfl, B1.out⟩
  | true =>
  cases f2 : Mk.few M with
  | false =>
    rw [f1] at F1
    rw [f2] at F2
    clear f1 f2 hn hm
    go_enter Tryd.func7, Tryd.ntmps7
    go_wp2_with fail
    refine HS.out.mono ?_
    rintro _ w1 ⟨rfl, hb⟩
    have B1 := Lib.hid hb
    clear hb
    go_wp2_with fail
    refine (F1.out _ B1.out).mono ?_
    rintro _ w2 ⟨rfl, rfl⟩
    go_wp2_with fail
    refine (F2.out _ B1.out).mono ?_
    rintro _ w2 ⟨rfl, rfl⟩
    go_wp2_with fail
    go_ret
    exact ⟨rfl, B1.out⟩
  | true =>
  obtain ⟨hL40, hL70⟩ := Mk.few_mem f1
  obtain ⟨hM40, hM70⟩ := Mk.few_mem f2
  rw [f1] at F1
  rw [f2] at F2
  clear f1 f2
  by_cases hnm : n = m
  case neg =>
    have y1 : ((n : Int) != (m : Int)) = true := by rw [bne_iff_ne]; omega
    have y2 : (n : Int) ≠ (m : Int) := by omega
    clear hn hm hL40 hL70 hM40 hM70
    go_enter Tryd.func7, Tryd.ntmps7
    go_wp2_with fail
    refine HS.out.mono ?_
    rintro _ w1 ⟨rfl, hb⟩
    have B1 := Lib.hid hb
    clear hb
    go_wp2_with fail
    refine (F1.out _ B1.out).mono ?_
    rintro _ w2 ⟨rfl, rfl⟩
    go_wp2_with fail
    refine (F2.out _ B1.out).mono ?_
    rintro _ w2 ⟨rfl, rfl⟩
    go_wp2_with fail
    go_ret
    exact ⟨rfl, B1.out⟩
  subst hnm
  have y1 : ((n : Int) != (n : Int)) = false := by simp
  have S1 := Lib.hid (fun W (hb : Below w.heap.size w W) => leaves_any L n hn (by omega) hL40 xa b off cap W (HL.out.below hb) (HE.out.new hb))
  have S2 := Lib.hid (fun W (hb : Below w.heap.size w W) => leaves_any M n hm (by omega) hM40 ya b' off' cap' W (HM.out.below hb) (HE.out.new hb))
  obtain ⟨s, hs⟩ : ∃ s, sameRows L M = s := ⟨_, rfl⟩
  have S3 := Lib.hid (fun W (hb : Below w.heap.size w W) => strings_any L M n n hn hm (by omega) (by omega) xa ya b off cap b' off' cap' W (HL.out.below hb) (HM.out.below hb))
  rw [hs] at S3
  have hX40 : ∀ (Z : List (List UInt8)), ∀ x ∈ Z.map Mk.leaf, x.length ≤ 40 := fun Z x hx => by
    obtain ⟨y, _, rfl⟩ := List.mem_map.1 hx
    rw [Mk.leaf_len]; omega
  obtain ⟨R, hR⟩ : ∃ R : ByteArray, Mk.root (L.map Mk.leaf) = R.data.toList := ⟨⟨(Mk.root (L.map Mk.leaf)).toArray⟩, rfl⟩
  obtain ⟨T, hT⟩ : ∃ R : ByteArray, Mk.root (M.map Mk.leaf) = R.data.toList := ⟨⟨(Mk.root (M.map Mk.leaf)).toArray⟩, rfl⟩
  obtain ⟨r, hr⟩ : ∃ r, decide (R.data.toList = T.data.toList) = r := ⟨_, rfl⟩
  have q1 : (R.toList == T.toList) = r := by rw [strEq, hr]
  have q2 : (R.toList != T.toList) = !r := by rw [bne, q1]
  have hyes : s = true → r = true := by
    intro h
    rw [← hs, sameRows, decide_eq_true_eq] at h
    rw [← hr, decide_eq_true_eq, ← hR, ← hT, h]
  obtain ⟨I, hI⟩ : ∃ I, Mk.inner (L.map Mk.leaf) = I := ⟨_, rfl⟩
  obtain ⟨J, hJ⟩ : ∃ I, Mk.inner (M.map Mk.leaf) = I := ⟨_, rfl⟩
  obtain ⟨H, hH⟩ : ∃ H, L.map pre04 ++ M.map pre04 = H := ⟨_, rfl⟩
  have hno : s = false → r = true → Mk.Clashes ((I ++ J) ++ H) := by
    intro h1 h2
    rw [← hI, ← hJ, ← hH]
    refine roots_clash (hn.trans hm.symm) (fun h => ?_) ?_
    · rw [← hs, sameRows, h] at h1; simp at h1
    · rw [← hr, decide_eq_true_eq, ← hR, ← hT] at h2; exact h2
  have hlL : (L.map Mk.leaf).length = n := by rw [List.length_map]; exact hn
  have hlM : (M.map Mk.leaf).length = n := by rw [List.length_map]; exact hm
  have lI : I.length ≤ 1000 := by rw [← hI]; have := Mk.inner_len n (L.map Mk.leaf) (by omega); omega
  have lJ : J.length ≤ 1000 := by rw [← hJ]; have := Mk.inner_len n (M.map Mk.leaf) (by omega); omega
  have lH : H.length ≤ 1000 := by rw [← hH]; simp; omega
  have hsz : ∀ x ∈ (I ++ J) ++ H, x.length ≤ 1000 := by
    intro x hx
    simp only [List.mem_append] at hx
    rcases hx with (hx | hx) | hx
    · rw [← hI] at hx; have := Mk.inner_size (hX40 L) x hx; omega
    · rw [← hJ] at hx; have := Mk.inner_size (hX40 M) x hx; omega
    · rw [← hH] at hx
      simp only [List.mem_append, List.mem_map] at hx
      rcases hx with ⟨y, hy, rfl⟩ | ⟨y, hy, rfl⟩
      · have := hL40 y hy; simp [pre04]; omega
      · have := hM40 y hy; simp [pre04]; omega
  obtain ⟨z, hz⟩ : ∃ z, ((I ++ J) ++ H).length = z := ⟨_, rfl⟩
  have hz2 : z ≤ 1000000 := by rw [← hz, List.length_append, List.length_append]; omega
  have T1 := Lib.hid (fun ya vb cp W hl2 hE2 => root_to (L.map Mk.leaf) n hlL (by omega) (hX40 L) R hR ya vb 0 cp W hl2 hE2)
  have T2 := Lib.hid (fun ya vb cp W hl2 hE2 => root_to (M.map Mk.leaf) n hlM (by omega) (hX40 M) T hT ya vb 0 cp W hl2 hE2)
  have T3 := Lib.hid (fun ya vb cp W hl2 => rinner_any n (L.map Mk.leaf) n hlL (Nat.le_refl _) (by omega) (hX40 L) ya vb 0 cp W hl2)
  have T4 := Lib.hid (fun ya vb cp W hl2 => rinner_any n (M.map Mk.leaf) n hlM (Nat.le_refl _) (by omega) (hX40 M) ya vb 0 cp W hl2)
  rw [hI] at T3
  rw [hJ] at T4
  have T5 := Lib.hid (fun W (hb : Below w.heap.size w W) => hashed_any L M n n hn hm (by omega) (by omega) hL40 hM40 xa ya b off cap b' off' cap' W (HL.out.below hb) (HM.out.below hb))
  rw [hH] at T5
  have T6 := Lib.hid (fun (hC : Mk.Clashes ((I ++ J) ++ H)) xa b off cap W hl2 => rclash_any ((I ++ J) ++ H) z hz hz2 hsz hC xa b off cap W hl2)
  have HZ := Lib.hid hz
  have HX := Lib.hid hlL
  have HY := Lib.hid hlM
  have HNO := Lib.hid hno
  have hbig1 : I.length + J.length ≤ 1000000000 := by omega
  have hbig2 : (I ++ J).length + H.length ≤ 1000000000 := by rw [List.length_append]; omega
  obtain ⟨X, hXX⟩ : ∃ X, L.map Mk.leaf = X := ⟨_, rfl⟩
  obtain ⟨Y, hYY⟩ : ∃ X, M.map Mk.leaf = X := ⟨_, rfl⟩
  rw [hXX] at S1 T1 T3 HX
  rw [hYY] at S2 T2 T4 HY
  clear hn hm hL40 hM40 hs hX40 hR hT hr hI hJ hH hno hlL hlM hsz hz lI lJ lH hXX hYY
  cases s with
  | true =>
    obtain rfl : r = true := hyes rfl
    simp only [Bool.not_true] at q2
    clear hyes HNO
    go_enter Tryd.func7, Tryd.ntmps7
    go_wp2_with fail
    refine HS.out.mono ?_
    rintro _ w1 ⟨rfl, hb⟩
    have B1 := Lib.hid hb
    clear hb
    go_wp2_with fail
    refine (F1.out _ B1.out).mono ?_
    rintro _ w2 ⟨rfl, rfl⟩
    go_wp2_with fail
    refine (F2.out _ B1.out).mono ?_
    rintro _ w2 ⟨rfl, rfl⟩
    go_wp2_with fail
    refine (S1.out _ B1.out).mono ?_
    rintro _ w2 ⟨v2, rfl, ho, hb⟩
    have B2 := Lib.hid (B1.out.trans (hb.mono B1.out.size))
    have hrow := ho.row
    rw [HX.out] at hrow
    obtain ⟨va, vb, vc, rfl, hlv⟩ := hrow
    have L2 := Lib.hid hlv
    clear hb ho hlv
    go_wp2_with fail
    refine (S2.out _ B2.out).mono ?_
    rintro _ w3 ⟨v3, rfl, ho, hb⟩
    have B3 := Lib.hid (B2.out.trans (hb.mono B2.out.size))
    have L3 := Lib.hid (L2.out.below hb)
    have hrow := ho.row
    rw [HY.out] at hrow
    obtain ⟨ua, ub, uc, rfl, hlv⟩ := hrow
    have M3 := Lib.hid hlv
    clear hb ho hlv
    go_wp2_with fail
    refine (S3.out _ B3.out).mono ?_
    rintro _ w4 ⟨rfl, hb⟩
    have B4 := Lib.hid (B3.out.trans (hb.mono B3.out.size))
    have L4 := Lib.hid (L3.out.below hb)
    have M4 := Lib.hid (M3.out.below hb)
    clear hb
    go_wp2_with fail
    refine (T1.out _ _ _ _ L4.out (HE.out.new B4.out)).mono ?_
    rintro _ w5 ⟨rfl, hb⟩
    have B5 := Lib.hid (B4.out.trans (hb.mono B4.out.size))
    have L5 := Lib.hid (L4.out.below hb)
    have M5 := Lib.hid (M4.out.below hb)
    clear hb
    go_wp2_with fail
    refine (T2.out _ _ _ _ M5.out (HE.out.new B5.out)).mono ?_
    rintro _ w6 ⟨rfl, hb⟩
    have B6 := Lib.hid (B5.out.trans (hb.mono B5.out.size))
    have L6 := Lib.hid (L5.out.below hb)
    have M6 := Lib.hid (M5.out.below hb)
    clear hb
    go_wp2_with fail
    go_ret
    exact ⟨rfl, B6.out⟩
  | false =>
    cases r with
    | false =>
      simp only [Bool.not_false] at q2
      clear hyes HNO
      go_enter Tryd.func7, Tryd.ntmps7
      go_wp2_with fail
      refine HS.out.mono ?_
      rintro _ w1 ⟨rfl, hb⟩
      have B1 := Lib.hid hb
      clear hb
      go_wp2_with fail
      refine (F1.out _ B1.out).mono ?_
      rintro _ w2 ⟨rfl, rfl⟩
      go_wp2_with fail
      refine (F2.out _ B1.out).mono ?_
      rintro _ w2 ⟨rfl, rfl⟩
      go_wp2_with fail
      refine (S1.out _ B1.out).mono ?_
      rintro _ w2 ⟨v2, rfl, ho, hb⟩
      have B2 := Lib.hid (B1.out.trans (hb.mono B1.out.size))
      have hrow := ho.row
      rw [HX.out] at hrow
      obtain ⟨va, vb, vc, rfl, hlv⟩ := hrow
      have L2 := Lib.hid hlv
      clear hb ho hlv
      go_wp2_with fail
      refine (S2.out _ B2.out).mono ?_
      rintro _ w3 ⟨v3, rfl, ho, hb⟩
      have B3 := Lib.hid (B2.out.trans (hb.mono B2.out.size))
      have L3 := Lib.hid (L2.out.below hb)
      have hrow := ho.row
      rw [HY.out] at hrow
      obtain ⟨ua, ub, uc, rfl, hlv⟩ := hrow
      have M3 := Lib.hid hlv
      clear hb ho hlv
      go_wp2_with fail
      refine (S3.out _ B3.out).mono ?_
      rintro _ w4 ⟨rfl, hb⟩
      have B4 := Lib.hid (B3.out.trans (hb.mono B3.out.size))
      have L4 := Lib.hid (L3.out.below hb)
      have M4 := Lib.hid (M3.out.below hb)
      clear hb
      go_wp2_with fail
      refine (T1.out _ _ _ _ L4.out (HE.out.new B4.out)).mono ?_
      rintro _ w5 ⟨rfl, hb⟩
      have B5 := Lib.hid (B4.out.trans (hb.mono B4.out.size))
      have L5 := Lib.hid (L4.out.below hb)
      have M5 := Lib.hid (M4.out.below hb)
      clear hb
      go_wp2_with fail
      refine (T2.out _ _ _ _ M5.out (HE.out.new B5.out)).mono ?_
      rintro _ w6 ⟨rfl, hb⟩
      have B6 := Lib.hid (B5.out.trans (hb.mono B5.out.size))
      have L6 := Lib.hid (L5.out.below hb)
      have M6 := Lib.hid (M5.out.below hb)
      clear hb
      go_wp2_with fail
      go_ret
      exact ⟨rfl, B6.out⟩
    | true =>
      simp only [Bool.not_true] at q2
      have HCl := Lib.hid (HNO.out rfl rfl)
      clear hyes HNO
      go_enter Tryd.func7, Tryd.ntmps7
      go_wp2_with fail
      refine HS.out.mono ?_
      rintro _ w1 ⟨rfl, hb⟩
      have B1 := Lib.hid hb
      clear hb
      go_wp2_with fail
      refine (F1.out _ B1.out).mono ?_
      rintro _ w2 ⟨rfl, rfl⟩
      go_wp2_with fail
      refine (F2.out _ B1.out).mono ?_
      rintro _ w2 ⟨rfl, rfl⟩
      go_wp2_with fail
      refine (S1.out _ B1.out).mono ?_
      rintro _ w2 ⟨v2, rfl, ho, hb⟩
      have B2 := Lib.hid (B1.out.trans (hb.mono B1.out.size))
      have hrow := ho.row
      rw [HX.out] at hrow
      obtain ⟨va, vb, vc, rfl, hlv⟩ := hrow
      have L2 := Lib.hid hlv
      clear hb ho hlv
      go_wp2_with fail
      refine (S2.out _ B2.out).mono ?_
      rintro _ w3 ⟨v3, rfl, ho, hb⟩
      have B3 := Lib.hid (B2.out.trans (hb.mono B2.out.size))
      have L3 := Lib.hid (L2.out.below hb)
      have hrow := ho.row
      rw [HY.out] at hrow
      obtain ⟨ua, ub, uc, rfl, hlv⟩ := hrow
      have M3 := Lib.hid hlv
      clear hb ho hlv
      go_wp2_with fail
      refine (S3.out _ B3.out).mono ?_
      rintro _ w4 ⟨rfl, hb⟩
      have B4 := Lib.hid (B3.out.trans (hb.mono B3.out.size))
      have L4 := Lib.hid (L3.out.below hb)
      have M4 := Lib.hid (M3.out.below hb)
      clear hb
      go_wp2_with fail
      refine (T1.out _ _ _ _ L4.out (HE.out.new B4.out)).mono ?_
      rintro _ w5 ⟨rfl, hb⟩
      have B5 := Lib.hid (B4.out.trans (hb.mono B4.out.size))
      have L5 := Lib.hid (L4.out.below hb)
      have M5 := Lib.hid (M4.out.below hb)
      clear hb
      go_wp2_with fail
      refine (T2.out _ _ _ _ M5.out (HE.out.new B5.out)).mono ?_
      rintro _ w6 ⟨rfl, hb⟩
      have B6 := Lib.hid (B5.out.trans (hb.mono B5.out.size))
      have L6 := Lib.hid (L5.out.below hb)
      have M6 := Lib.hid (M5.out.below hb)
      clear hb
      go_wp2_with fail
      refine (T3.out _ _ _ _ L6.out).mono ?_
      rintro _ w7 ⟨v7, rfl, ho, hb⟩
      have b7 := Lib.hid hb
      have B7 := Lib.hid (B6.out.trans (hb.mono B6.out.size))
      have M7 := Lib.hid (M6.out.below hb)
      have O7 := Lib.hid ho
      clear hb ho
      go_wp2_with fail
      refine (T4.out _ _ _ _ M7.out).mono ?_
      rintro _ w8 ⟨v8, rfl, ho, hb⟩
      have b8 := Lib.hid (b7.out.trans (hb.mono b7.out.size))
      have O8 := Lib.hid ho
      have O7b := Lib.hid (O7.out.below hb)
      clear hb ho
      go_wp2_with (at_builtin; go_must (refine wpList_append_rows_want (by rfl) _ _ (by rfl) w6.heap.size _ I (by rfl) O7b.out _ v8 J (by rfl) O8.out hbig1 b8.out.size ?_); intro v9 w9 hown hgrow; have O9 := Lib.hid hown; have b9 := Lib.hid (below_grown b8.out O7b.out hgrow (Nat.le_refl _) (Nat.le_refl _)); have B9 := Lib.hid (B6.out.trans (b9.out.mono B6.out.size)); clear hown hgrow)
      refine (T5.out _ B9.out).mono ?_
      rintro _ w10 ⟨v10, rfl, ho, hb⟩
      have b10 := Lib.hid (b9.out.trans (hb.mono b9.out.size))
      have O10 := Lib.hid ho
      have O9b := Lib.hid (O9.out.below hb)
      clear hb ho
      go_wp2_with (at_builtin; go_must (refine wpList_append_rows_want (by rfl) _ _ (by rfl) w6.heap.size _ (I ++ J) (by rfl) O9b.out _ v10 H (by rfl) O10.out hbig2 b10.out.size ?_); intro v11 w11 hown hgrow; have O11 := Lib.hid hown; have b11 := Lib.hid (below_grown b10.out O9b.out hgrow (Nat.le_refl _) (Nat.le_refl _)); have B11 := Lib.hid (B6.out.trans (b11.out.mono B6.out.size)); clear hown hgrow; have hrow := O11.out.row; rw [HZ.out] at hrow; obtain ⟨za, zb, zc, rfl, hlv⟩ := hrow; have L11 := Lib.hid hlv; clear hlv)
      refine (T6.out HCl.out _ _ _ _ _ L11.out).mono ?_
      rintro _ w12 ⟨rfl, hb⟩
      have B12 := Lib.hid (B11.out.trans (hb.mono B11.out.size))
      clear hb
      go_wp2_with fail
      go_ret
      exact ⟨rfl, B12.out⟩
end Go.Proofs.YteiabaddmclmlaaDoor
