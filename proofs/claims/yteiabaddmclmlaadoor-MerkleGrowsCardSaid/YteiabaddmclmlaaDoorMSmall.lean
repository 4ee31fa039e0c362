/-
  few, leaves, small of the laws.
-/
import Derived.Test.YteiabaddmclmlaaDoorMGrow
import Derived.Test.YteiabaddmclmlaaDoorMBoth
import Derived.Test.YteiabaddmclmlaaDoorMApp
namespace Go.Proofs.YteiabaddmclmlaaDoor
open Go Go.RowKit Go.Shelf
namespace Mk
def fewB (x : B) : Bool := decide (x.length ≤ 40)
def few (L : List B) : Bool := L.all fewB && decide (L.length ≤ 70)
def FewTo (L : List B) (k : Nat) : Prop := ∀ j, j < k → fewB (L.getD j []) = true
theorem FewTo.next {L : List B} {k : Nat} (h : FewTo L k) (hk : fewB (L.getD k []) = true) : FewTo L (k + 1) := fun j hj => by
  rcases Nat.lt_succ_iff_lt_or_eq.1 hj with h1 | rfl
  · exact h j h1
  · exact hk
theorem FewTo.all {L : List B} (h : FewTo L L.length) : few L = decide (L.length ≤ 70) := by
  unfold few
  rw [show L.all fewB = true from ?_]
  · simp
  rw [List.all_eq_true]
  intro x hx
  obtain ⟨j, hj, rfl⟩ := List.getElem_of_mem hx
  have := h j hj
  rwa [List.getD_eq_getElem?_getD, List.getElem?_eq_getElem hj] at this
theorem few_not {L : List B} {k : Nat} (hk : k < L.length) (h : fewB (L.getD k []) = false) : few L = false := by
  unfold few
  rw [show L.all fewB = false from ?_]
  · simp
  rw [List.all_eq_false]
  refine ⟨L[k], List.getElem_mem hk, ?_⟩
  rw [List.getD_eq_getElem?_getD, List.getElem?_eq_getElem hk] at h
  simp at h ⊢
  exact h
theorem few_mem {L : List B} (h : few L = true) : (∀ x ∈ L, x.length ≤ 40) ∧ L.length ≤ 70 := by
  unfold few at h
  simp only [Bool.and_eq_true, decide_eq_true_eq] at h
  refine ⟨fun x hx => ?_, h.2⟩
  have := List.all_eq_true.1 h.1 x hx
  simpa [fewB] using this
def pathI (X : List B) (i : Int) : List B := if 0 ≤ i then path X i.toNat else []
theorem split_two : split 2 = 1 := by decide +kernel
theorem split_three : split 3 = 2 := by decide +kernel
theorem root_two (a b : B) : root [a, b] = join a b := by
  rw [root_many (by simp)]
  show join (root (List.take (split 2) [a, b])) (root (List.drop (split 2) [a, b])) = _
  rw [split_two]
  show join (root [a]) (root [b]) = _
  rw [root_one, root_one]
theorem sm_root (a b c : B) : root [a, b, c] = join (join a b) c := by
  rw [root_many (by simp)]
  show join (root (List.take (split 3) [a, b, c])) (root (List.drop (split 3) [a, b, c])) = _
  rw [split_three]
  show join (root [a, b]) (root [c]) = _
  rw [root_two, root_one]
theorem sm_path2 (a b c : B) : path [a, b, c] 2 = [join a b] := by
  rw [path_right (by simp) (by simp) (by show ¬ 2 < split 3; rw [split_three]; omega)]
  show path (List.drop (split 3) [a, b, c]) (2 - split 3) ++ [root (List.take (split 3) [a, b, c])] = _
  rw [split_three]
  show path [c] 0 ++ [root [a, b]] = _
  rw [path_none (by simp), root_two]
  rfl
theorem sm_path0 (a b c : B) : path [a, b, c] 0 = [b, c] := by
  rw [path_left (by simp) (by show 0 < split 3; rw [split_three]; omega)]
  show path (List.take (split 3) [a, b, c]) 0 ++ [root (List.drop (split 3) [a, b, c])] = _
  rw [split_three]
  show path [a, b] 0 ++ [root [c]] = _
  rw [path_left (by simp) (by show 0 < split 2; rw [split_two]; omega)]
  show (path (List.take (split 2) [a, b]) 0 ++ [root (List.drop (split 2) [a, b])]) ++ [root [c]] = _
  rw [split_two]
  show (path [a] 0 ++ [root [b]]) ++ [root [c]] = _
  rw [path_none (by simp), root_one, root_one]
  rfl
theorem sm_grown2 (a b c : B) : grown [a, b, c] 2 = [c] := by
  unfold grown
  rw [if_pos (by simp)]
  show growth [a, b, c] 2 true = _
  rw [growth_left (by simp) (by show 2 ≤ split 3; rw [split_three]; omega)]
  show growth (List.take (split 3) [a, b, c]) 2 true ++ [root (List.drop (split 3) [a, b, c])] = _
  rw [split_three]
  show growth [a, b] 2 true ++ [root [c]] = _
  rw [root_one]
  have := growth_all [a, b] true
  rw [show growth [a, b] 2 true = growth [a, b] [a, b].length true from rfl, this]
  rfl
theorem sm_grown1 (a b c : B) : grown [a, b, c] 1 = [b, c] := by
  unfold grown
  rw [if_pos (by simp)]
  show growth [a, b, c] 1 true = _
  rw [growth_left (by simp) (by show 1 ≤ split 3; rw [split_three]; omega)]
  show growth (List.take (split 3) [a, b, c]) 1 true ++ [root (List.drop (split 3) [a, b, c])] = _
  rw [split_three]
  show growth [a, b] 1 true ++ [root [c]] = _
  rw [growth_left (by simp) (by show 1 ≤ split 2; rw [split_two]; omega)]
  show (growth (List.take (split 2) [a, b]) 1 true ++ [root (List.drop (split 2) [a, b])]) ++ [root [c]] = _
  rw [split_two]
  show (growth [a] 1 true ++ [root [b]]) ++ [root [c]] = _
  have := growth_all [a] true
  rw [show growth [a] 1 true = growth [a] [a].length true from rfl, this, root_one]
  simp [root_one]
theorem sm_check2 {a b c : B} (hc : c.length = 32) : check (join (join a b) c) c 3 2 [join a b] = true := by
  have h : by_ c [join a b] 3 2 = some (join (join a b) c) := by
    unfold by_
    rw [if_neg (by omega), split_three, if_neg (by omega)]
    show (by_ c [] 1 0).map _ = _
    unfold by_
    rfl
  unfold check
  have e1 : hashy (join (join a b) c) = true := by unfold hashy; rw [join_len]; rfl
  have e2 : hashes [join a b] = true := hashes_of (by intro x hx; obtain rfl := List.mem_singleton.1 hx; exact join_len _ _)
  have e3 : hashy c = true := by unfold hashy; rw [hc]; rfl
  rw [e1, e2, e3]
  show (true && true && true && true && true && decide (by_ c [join a b] 3 2 = some _)) = true
  rw [h]
  simp
theorem sm_check1 {a b c : B} : check (join (join a b) c) c 3 1 [join a b] = false := by
  have h : by_ c [join a b] 3 1 = none := by
    unfold by_
    rw [if_neg (by omega), split_three, if_pos (by omega)]
    unfold by_
    rfl
  unfold check
  show (_ && _ && _ && _ && _ && decide (by_ c [join a b] 3 1 = some _)) = false
  rw [h]
  simp
theorem sm_grown {a b c : B} (hc : c.length = 32) : checkGrown (join a b) (join (join a b) c) 2 3 [c] = true := by
  have h : both (join a b) [c] 2 3 true = some (join a b, join (join a b) c) := by
    unfold both
    rw [if_neg (by omega), split_three, if_pos (by omega)]
    unfold both
    rfl
  unfold checkGrown
  have e1 : hashy (join (join a b) c) = true := by unfold hashy; rw [join_len]; rfl
  have e2 : hashy (join a b) = true := by unfold hashy; rw [join_len]; rfl
  have e3 : hashes [c] = true := hashes_of (by intro x hx; obtain rfl := List.mem_singleton.1 hx; exact hc)
  rw [e1, e2, e3, if_neg (by omega)]
  show (true && true && true && true && true && decide (both (join a b) [c] 2 3 true = some _)) = true
  rw [h]
  simp
end Mk
theorem path_every (X : List (List UInt8)) (n : Nat) (hn : X.length = n) (hN : n ≤ 1000000) (hX : ∀ x ∈ X, x.length ≤ 40) (i : Int) (P : List (List UInt8)) (hP : Mk.pathI X i = P) (m : Nat) (hm : P.length = m) (xa : Option Addr) (b off cap : Nat) (w : World) (hL : Lv w xa b off cap X) (hE : Env w) :
    Calls Tryd.prog 36 #[.slice xa n cap, .int .i64 i] w fun e w' => ∃ ya c d v, v = .slice ya m d ∧ e = .returned v ∧ SOwn w' w.heap.size v P ∧ Lv w' ya c 0 d P ∧ Below w.heap.size w w' := by
  by_cases h : 0 ≤ i ∧ i < n
  · obtain ⟨j, rfl⟩ := Int.eq_ofNat_of_zero_le h.1
    refine (path_any n X n hn (Nat.le_refl _) hN hX j (by omega) xa b off cap w hL hE).mono fun e w' h2 => ?_
    obtain ⟨v, he, hv, hb⟩ := h2
    have e1 : Mk.path X j = P := by rw [← hP]; unfold Mk.pathI; rw [if_pos (by omega), Int.toNat_natCast]
    rw [e1] at hv
    obtain ⟨ya, c, d, rfl, hl⟩ := hv.row
    exact ⟨ya, c, d, _, by rw [hm], he, hv, hl, hb⟩
  · have e1 : P = [] := by
      rw [← hP]; unfold Mk.pathI
      by_cases h0 : 0 ≤ i
      · rw [if_pos h0, Mk.path_none (by omega)]
      · rw [if_neg h0]
    subst e1
    obtain rfl : m = 0 := hm.symm
    refine (path_out X n hn hN i (by omega) xa cap w).mono fun e w' h2 => ⟨none, 0, 0, _, rfl, h2.1, SOwn.nil _ _, ⟨fun h => absurd h (by simp), fun j hj => absurd hj (by simp), fun h => absurd h (by simp), by simp⟩, h2.2⟩
theorem grown_every (X : List (List UInt8)) (n : Nat) (hn : X.length = n) (hN : n ≤ 1000000) (hX : ∀ x ∈ X, x.length ≤ 40) (i : Int) (P : List (List UInt8)) (hP : Mk.grown X i = P) (m : Nat) (hm : P.length = m) (xa : Option Addr) (b off cap : Nat) (w : World) (hL : Lv w xa b off cap X) (hE : Env w) :
    Calls Tryd.prog 38 #[.slice xa n cap, .int .i64 i] w fun e w' => ∃ ya c d v, v = .slice ya m d ∧ e = .returned v ∧ SOwn w' w.heap.size v P ∧ Lv w' ya c 0 d P ∧ Below w.heap.size w w' := by
  refine (grown_any X n hn hN hX i xa b off cap w hL hE).mono fun e w' h2 => ?_
  obtain ⟨v, he, hv, hb⟩ := h2
  rw [hP] at hv
  obtain ⟨ya, c, d, rfl, hl⟩ := hv.row
  exact ⟨ya, c, d, _, by rw [hm], he, hv, hl, hb⟩
theorem lt_alloc (w : World) (o : Obj) : w.heap.size < (w.alloc o).heap.size := by simp
theorem lv_lit (w : World) (X : List (List UInt8)) : Lv (w.alloc (.cells (sv X).toArray 9)) (some ⟨w.heap.size, 0, none⟩) w.heap.size 0 X.length X := by
  refine ⟨fun _ => rfl, fun j hj => ?_, fun _ => lt_alloc w _, Nat.le_refl _⟩
  have := cells_new w (sv X) 9 j (encStr (X.getD j [])) (sv_at hj)
  rw [add_plain0] at this
  rw [Nat.zero_add]; exact this
theorem strings_same (X : List (List UInt8)) (n : Nat) (hn : X.length = n) (hN : n ≤ 1000000) (xa ya : Option Addr) (b off cap b' off' cap' : Nat) (w : World) (hX : Lv w xa b off cap X) (hY : Lv w ya b' off' cap' X) :
    Calls Tryd.prog 35 #[.slice xa n cap, .slice ya n cap'] w fun e w' => e = .returned (.bool true) ∧ Below w.heap.size w w' :=
  (strings_any X X n n hn hn hN hN xa ya b off cap b' off' cap' w hX hY).mono fun e w' h => ⟨by rw [h.1]; simp [sameRows], h.2⟩
set_option maxHeartbeats 1000000 in
set_option maxRecDepth 100000 in
theorem few_any (L : List (List UInt8)) (n : Nat) (hn : L.length = n) (hN : n ≤ 9223372036854775807) (xa : Option Addr) (b off cap : Nat) (w : World) (hL : Lv w xa b off cap L) :
    Calls Tryd.prog 28 #[.slice xa n cap] w fun e w' => e = .returned (.bool (Mk.few L)) ∧ w = w' := by
  have HL := Lib.hid hL
  have HN := Lib.hid hn
  clear hL hn
  go_enter Tryd.func28, Tryd.ntmps28
  go_wp2
  go_loop [3] (fun i => ∃ k : Nat, i = .int .i64 k ∧ k ≤ n ∧ Mk.FewTo L k) (fun i => n - (intOf i).toNat)
  case atStart => exact ⟨0, rfl, Nat.zero_le _, fun j hj => absurd hj (by omega)⟩
  case round =>
    obtain ⟨k, rfl, hk, hA⟩ := hrel
    have HA := Lib.hid hA
    clear hA
    by_cases hlt : k < n
    · obtain rfl := HL.out.at_ (by rw [HN.out]; omega)
      have c := HL.out.cell k (by rw [HN.out]; omega)
      obtain ⟨s, hs⟩ : ∃ s, encStr (L.getD k []) = .string s := ⟨_, rfl⟩
      rw [hs] at c
      have hz := (encStr_size hs).2
      by_cases h32 : s.size ≤ 40
      · have HY := Lib.hid (show Mk.fewB (L.getD k []) = true by unfold Mk.fewB; rw [← hz]; simpa using h32)
        have h1 : ¬ (s.size : Int) > 40 := by omega
        clear hs hz
        go_wp2_with fail
        go_round
        case rel => exact ⟨k + 1, by go_num, by omega, HA.out.next HY.out⟩
        case measure => simp [intOf]; omega
      · have HY := Lib.hid (show Mk.few L = false from Mk.few_not (k := k) (by rw [HN.out]; exact hlt) (by unfold Mk.fewB; rw [← hz]; simpa using h32))
        have h1 : (s.size : Int) > 40 := by omega
        clear hs hz
        go_wp2_with fail
        go_ret
        exact ⟨retB HY.out, rfl⟩
    · obtain rfl : k = n := by omega
      have HY : Hid (Mk.few L = decide (k ≤ 70)) := by
        have := HA.out
        rw [← HN.out] at this
        have := this.all
        rw [HN.out] at this
        exact Lib.hid this
      by_cases h70 : k ≤ 70
      · have HZ := Lib.hid (HY.out.trans (decide_eq_true h70))
        have h1 : (k : Int) ≤ 70 := by omega
        have h2 : decide ((k : Int) ≤ 70) = true := by simpa using h1
        go_wp2_with fail
        go_ret
        exact ⟨retB HZ.out, rfl⟩
      · have HZ := Lib.hid (HY.out.trans (decide_eq_false h70))
        have h1 : ¬ (k : Int) ≤ 70 := by omega
        have h2 : decide ((k : Int) ≤ 70) = false := by simpa using h1
        go_wp2_with fail
        go_ret
        exact ⟨retB HZ.out, rfl⟩
set_option maxHeartbeats 2000000 in
set_option maxRecDepth 100000 in
theorem leaves_any (L : List (List UInt8)) (n : Nat) (hn : L.length = n) (hN : n ≤ 1000000) (hL40 : ∀ x ∈ L, x.length ≤ 40) (xa : Option Addr) (b off cap : Nat) (w : World) (hL : Lv w xa b off cap L) (hE : Env w) :
    Calls Tryd.prog 44 #[.slice xa n cap] w fun e w' => ∃ v, e = .returned v ∧ SOwn w' w.heap.size v (L.map Mk.leaf) ∧ Below w.heap.size w w' := by
  have HL := Lib.hid hL
  have HN := Lib.hid hn
  have H40 := Lib.hid hL40
  have HE := Lib.hid hE
  clear hL hn hL40 hE
  go_enter Tryd.func44, Tryd.ntmps44
  go_wp2
  go_loopw [3, 4] (fun o i wr => ∃ (k : Nat) (v : Value), o = v ∧ i = .int .i64 k ∧ k ≤ n ∧ Hid (SOwn wr w.heap.size v ((L.take k).map Mk.leaf)) ∧ Hid (Below w.heap.size w wr)) (fun _ i _ => n - (intOf i).toNat)
  case atStart => exact ⟨0, _, rfl, rfl, Nat.zero_le _, Lib.hid (SOwn.nil _ _), Lib.hid (Below.refl _ _)⟩
  case round =>
    obtain ⟨k, v, rfl, rfl, hk, hO, hB⟩ := hrel
    by_cases hlt : k < n
    · obtain rfl := HL.out.at_ (by rw [HN.out]; omega)
      have c := (HL.out.below hB.out).cell k (by rw [HN.out]; omega)
      obtain ⟨s, hs⟩ : ∃ s, encStr (L.getD k []) = .string s := ⟨_, rfl⟩
      rw [hs] at c
      obtain ⟨hs1, hz⟩ := encStr_size hs
      have hg : L.getD k [] ∈ L := by
        rw [List.getD_eq_getElem?_getD, List.getElem?_eq_getElem (by rw [HN.out]; omega)]
        exact List.getElem_mem _
      have hsz : s.size ≤ 40 := by rw [hz]; exact H40.out _ hg
      obtain ⟨R, hR⟩ : ∃ R : ByteArray, Mk.leaf s.data.toList = R.data.toList := ⟨⟨(Mk.leaf s.data.toList).toArray⟩, rfl⟩
      have S := Lib.hid (leaf_to s R (by omega) hR wr (HE.out.new hB.out))
      have HT := Lib.hid (show ∀ T : List (List UInt8) → Prop, T ((L.take k).map Mk.leaf ++ [R.data.toList]) → T ((L.take (k + 1)).map Mk.leaf) from fun T h => by
        rw [List.take_add_one, List.map_append, show L[k]?.toList = [L.getD k []] from by rw [List.getD_eq_getElem?_getD, List.getElem?_eq_getElem (by rw [HN.out]; omega)]; rfl]
        rw [List.map_cons, List.map_nil, hs1, hR]; exact h)
      obtain ⟨P, hP⟩ : ∃ P, (L.take k).map Mk.leaf = P := ⟨_, rfl⟩
      have hPl : P.length ≤ 1000000 := by rw [← hP]; simp; omega
      rw [hP] at hO HT
      clear hs hs1 hz hg hsz hR hP
      go_wp2_with fail
      refine S.out.mono ?_
      rintro _ w1 ⟨rfl, hb1⟩
      have B1 := Lib.hid (hB.out.trans (hb1.mono hB.out.size))
      have O1 := Lib.hid (hO.out.below hb1)
      clear hb1 S c
      go_wp2_with (at_builtin; go_must (refine wpList_append_strs (by rfl) _ _ (by rfl) w.heap.size _ P (by rfl) (O1.out.alloc _) ⟨w1.heap.size, 0, none⟩ 1 1 [R.data.toList] (by rfl) rfl (cells_new w1 (sv [R.data.toList]) _) (by omega) (Nat.le_trans B1.out.size (by first | exact Nat.le_succ _ | simp)) ?_); intro v1 w3 hown3 hgrow; have HO3 := Lib.hid (HT.out (fun t => SOwn w3 w.heap.size v1 t) hown3); have HB3 := Lib.hid (below_grown (below_alloc B1.out (Nat.le_refl _) _) (O1.out.alloc _) hgrow (Nat.le_refl _) (Nat.le_refl _)); clear hown3 hgrow)
      go_roundw
      case rel => exact ⟨k + 1, v1, rfl, by go_num, by omega, HO3, HB3⟩
      case measure => simp [intOf]; omega
    · obtain rfl : k = n := by omega
      have HT := Lib.hid (show ∀ T : List (List UInt8) → Prop, T ((L.take k).map Mk.leaf) → T (L.map Mk.leaf) from fun T h => by rw [List.take_of_length_le (by rw [HN.out]; omega)] at h; exact h)
      go_wp2_with fail
      go_ret
      exact ⟨_, rfl, HT.out (fun t => SOwn _ w.heap.size _ t) hO.out, hB.out⟩
set_option maxHeartbeats 8000000 in
set_option maxRecDepth 100000 in
theorem small04_any (w : World) (hE : Env w) :
    Calls Tryd.prog 27 #[] w fun e w' => e = .returned (.bool true) ∧ Below w.heap.size w w' := by
  have HE := Lib.hid hE
  obtain ⟨A, hA⟩ : ∃ A : ByteArray, Mk.leaf [97] = A.data.toList := ⟨⟨(Mk.leaf [97]).toArray⟩, rfl⟩
  obtain ⟨B, hB⟩ : ∃ A : ByteArray, Mk.leaf [98] = A.data.toList := ⟨⟨(Mk.leaf [98]).toArray⟩, rfl⟩
  obtain ⟨C, hC⟩ : ∃ A : ByteArray, Mk.leaf [99] = A.data.toList := ⟨⟨(Mk.leaf [99]).toArray⟩, rfl⟩
  have zA : A.size = 32 := by rw [Lib.size_eq, ← hA]; exact Mk.leaf_len _
  have zB : B.size = 32 := by rw [Lib.size_eq, ← hB]; exact Mk.leaf_len _
  have zC : C.size = 32 := by rw [Lib.size_eq, ← hC]; exact Mk.leaf_len _
  have lC : C.data.toList.length = 32 := by rw [← hC]; exact Mk.leaf_len _
  have hne : Mk.leaf [97] ≠ Mk.leaf [98] := by decide +kernel
  rw [hA, hB] at hne
  have hAB2 : (A.toList == B.toList) = false := by rw [strEq]; simpa using hne
  have hAB : (A.toList != B.toList) = true := by rw [bne, hAB2]; rfl
  obtain ⟨T, hT⟩ : ∃ T : ByteArray, Mk.join A.data.toList B.data.toList = T.data.toList := ⟨⟨(Mk.join A.data.toList B.data.toList).toArray⟩, rfl⟩
  have zT : T.size = 32 := by rw [Lib.size_eq, ← hT]; exact Mk.join_len _ _
  obtain ⟨R, hR⟩ : ∃ R : ByteArray, Mk.join T.data.toList C.data.toList = R.data.toList := ⟨⟨(Mk.join T.data.toList C.data.toList).toArray⟩, rfl⟩
  have zR : R.size = 32 := by rw [Lib.size_eq, ← hR]; exact Mk.join_len _ _
  have sA : ((A.size : Int) == 32) = true := by rw [zA]; rfl
  have sR : (R.toList == R.toList) = true := by simp
  have h40 : ∀ x ∈ [A.data.toList, B.data.toList, C.data.toList], x.length ≤ 40 := by
    intro x hx
    simp only [List.mem_cons, List.not_mem_nil, or_false] at hx
    rcases hx with rfl | rfl | rfl
    · rw [← Lib.size_eq]; omega
    · rw [← Lib.size_eq]; omega
    · rw [← Lib.size_eq]; omega
  have r1 := Mk.sm_root A.data.toList B.data.toList C.data.toList
  rw [hT, hR] at r1
  have p2 : Mk.pathI [A.data.toList, B.data.toList, C.data.toList] 2 = [T.data.toList] := by rw [← hT]; exact Mk.sm_path2 _ _ _
  have p0 : Mk.pathI [A.data.toList, B.data.toList, C.data.toList] 0 = [B.data.toList, C.data.toList] := Mk.sm_path0 _ _ _
  have g2 : Mk.grown [A.data.toList, B.data.toList, C.data.toList] 2 = [C.data.toList] := Mk.sm_grown2 _ _ _
  have g1 : Mk.grown [A.data.toList, B.data.toList, C.data.toList] 1 = [B.data.toList, C.data.toList] := Mk.sm_grown1 _ _ _
  have k2 : Mk.check R.data.toList C.data.toList 3 2 [T.data.toList] = true := by rw [← hR, ← hT]; exact Mk.sm_check2 lC
  have k1 : Mk.check R.data.toList C.data.toList 3 1 [T.data.toList] = false := by rw [← hR, ← hT]; exact Mk.sm_check1
  have k3 : Mk.checkGrown T.data.toList R.data.toList 2 3 [C.data.toList] = true := by rw [← hR, ← hT]; exact Mk.sm_grown lC
  have SA := Lib.hid (fun W => leaf_to ⟨#[97]⟩ A (by decide) hA W)
  have SB := Lib.hid (fun W => leaf_to ⟨#[98]⟩ B (by decide) hB W)
  have SC := Lib.hid (fun W => leaf_to ⟨#[99]⟩ C (by decide) hC W)
  have ST := Lib.hid (fun W => join_to A B T (by omega) (by omega) hT W)
  have SR2 := Lib.hid (fun W => join_to T C R (by omega) (by omega) hR W)
  have SR := Lib.hid (fun xa b off cap W => root_to [A.data.toList, B.data.toList, C.data.toList] 3 rfl (by omega) h40 R r1 xa b off cap W)
  have SP2 := Lib.hid (fun xa b off cap W => path_every [A.data.toList, B.data.toList, C.data.toList] 3 rfl (by omega) h40 2 _ p2 1 rfl xa b off cap W)
  have SP0 := Lib.hid (fun xa b off cap W => path_every [A.data.toList, B.data.toList, C.data.toList] 3 rfl (by omega) h40 0 _ p0 2 rfl xa b off cap W)
  have SG2 := Lib.hid (fun xa b off cap W => grown_every [A.data.toList, B.data.toList, C.data.toList] 3 rfl (by omega) h40 2 _ g2 1 rfl xa b off cap W)
  have SG1 := Lib.hid (fun xa b off cap W => grown_every [A.data.toList, B.data.toList, C.data.toList] 3 rfl (by omega) h40 1 _ g1 2 rfl xa b off cap W)
  have SK2 := Lib.hid (fun xa b off cap W => check_any R C 3 2 (by omega) [T.data.toList] 1 rfl (by omega) xa b off cap W)
  have SK1 := Lib.hid (fun xa b off cap W => check_any R C 3 1 (by omega) [T.data.toList] 1 rfl (by omega) xa b off cap W)
  have SK3 := Lib.hid (fun xa b off cap W => checkGrown_any T R 2 3 (by omega) [C.data.toList] 1 rfl (by omega) xa b off cap W)
  rw [k2] at SK2
  rw [k1] at SK1
  rw [k3] at SK3
  clear hA hB hC zA zB zC lC hne hT zT hR zR h40 r1 p2 p0 g2 g1 k2 k1 k3 hE
  go_enter Tryd.func27, Tryd.ntmps27
  go_wp2_with fail
  refine (SA.out w HE.out).mono ?_
  rintro _ w1 ⟨rfl, hb⟩
  have B1 := Lib.hid (((Below.refl w.heap.size w)).trans (hb.mono ((Below.refl w.heap.size w)).size))
  clear hb
  go_wp2_with fail
  refine (SB.out w1 (HE.out.new B1.out)).mono ?_
  rintro _ w2 ⟨rfl, hb⟩
  have B2 := Lib.hid ((B1.out).trans (hb.mono (B1.out).size))
  clear hb
  go_wp2_with fail
  refine (SC.out w2 (HE.out.new B2.out)).mono ?_
  rintro _ w3 ⟨rfl, hb⟩
  have B3 := Lib.hid ((B2.out).trans (hb.mono (B2.out).size))
  clear hb
  go_wp2_with fail
  refine (ST.out _ (HE.out.new (below_alloc B3.out (Nat.le_refl _) (.cells (sv [A.data.toList, B.data.toList, C.data.toList]).toArray 9)))).mono ?_
  rintro _ w4 ⟨rfl, hb⟩
  have B4 := Lib.hid (((below_alloc B3.out (Nat.le_refl _) (.cells (sv [A.data.toList, B.data.toList, C.data.toList]).toArray 9))).trans (hb.mono ((below_alloc B3.out (Nat.le_refl _) (.cells (sv [A.data.toList, B.data.toList, C.data.toList]).toArray 9))).size))
  have L4 := Lib.hid (((lv_lit w3 [A.data.toList, B.data.toList, C.data.toList])).below hb)
  clear hb
  go_wp2_with fail
  refine (SR.out _ _ _ _ _ L4.out (HE.out.new B4.out)).mono ?_
  rintro _ w5 ⟨rfl, hb⟩
  have B5 := Lib.hid ((B4.out).trans (hb.mono (B4.out).size))
  have L5 := Lib.hid ((L4.out).below hb)
  clear hb
  go_wp2_with fail
  refine (SP2.out _ _ _ _ _ L5.out (HE.out.new B5.out)).mono ?_
  rintro _ w6 ⟨ya6, c6, d6, _, rfl, rfl, -, hv, hb⟩
  have B6 := Lib.hid ((B5.out).trans (hb.mono (B5.out).size))
  have L6 := Lib.hid ((L5.out).below hb)
  have V6 := Lib.hid hv
  clear hv
  clear hb
  go_wp2_with fail
  refine (strings_same [T.data.toList] 1 rfl (by omega) _ _ _ _ _ _ _ _ _ ((V6.out).below (below_alloc (Below.refl _ _) (Nat.le_refl _) (.cells (sv [T.data.toList]).toArray 9))) (lv_lit w6 [T.data.toList])).mono ?_
  rintro _ w7 ⟨rfl, hb⟩
  have B7 := Lib.hid (((below_alloc B6.out (Nat.le_refl _) (.cells (sv [T.data.toList]).toArray 9))).trans (hb.mono ((below_alloc B6.out (Nat.le_refl _) (.cells (sv [T.data.toList]).toArray 9))).size))
  have L7 := Lib.hid ((((L6.out).below (below_alloc (Below.refl _ _) (Nat.le_refl _) (.cells (sv [T.data.toList]).toArray 9)))).below hb)
  clear hb
  go_wp2_with fail
  refine (SP0.out _ _ _ _ _ L7.out (HE.out.new B7.out)).mono ?_
  rintro _ w8 ⟨ya8, c8, d8, _, rfl, rfl, -, hv, hb⟩
  have B8 := Lib.hid ((B7.out).trans (hb.mono (B7.out).size))
  have L8 := Lib.hid ((L7.out).below hb)
  have V8 := Lib.hid hv
  clear hv
  clear hb
  go_wp2_with fail
  refine (strings_same [B.data.toList, C.data.toList] 2 rfl (by omega) _ _ _ _ _ _ _ _ _ ((V8.out).below (below_alloc (Below.refl _ _) (Nat.le_refl _) (.cells (sv [B.data.toList, C.data.toList]).toArray 9))) (lv_lit w8 [B.data.toList, C.data.toList])).mono ?_
  rintro _ w9 ⟨rfl, hb⟩
  have B9 := Lib.hid (((below_alloc B8.out (Nat.le_refl _) (.cells (sv [B.data.toList, C.data.toList]).toArray 9))).trans (hb.mono ((below_alloc B8.out (Nat.le_refl _) (.cells (sv [B.data.toList, C.data.toList]).toArray 9))).size))
  have L9 := Lib.hid ((((L8.out).below (below_alloc (Below.refl _ _) (Nat.le_refl _) (.cells (sv [B.data.toList, C.data.toList]).toArray 9)))).below hb)
  clear hb
  go_wp2_with fail
  refine (SG2.out _ _ _ _ _ L9.out (HE.out.new B9.out)).mono ?_
  rintro _ w10 ⟨ya10, c10, d10, _, rfl, rfl, -, hv, hb⟩
  have B10 := Lib.hid ((B9.out).trans (hb.mono (B9.out).size))
  have L10 := Lib.hid ((L9.out).below hb)
  have V10 := Lib.hid hv
  clear hv
  clear hb
  go_wp2_with fail
  refine (strings_same [C.data.toList] 1 rfl (by omega) _ _ _ _ _ _ _ _ _ ((V10.out).below (below_alloc (Below.refl _ _) (Nat.le_refl _) (.cells (sv [C.data.toList]).toArray 9))) (lv_lit w10 [C.data.toList])).mono ?_
  rintro _ w11 ⟨rfl, hb⟩
  have B11 := Lib.hid (((below_alloc B10.out (Nat.le_refl _) (.cells (sv [C.data.toList]).toArray 9))).trans (hb.mono ((below_alloc B10.out (Nat.le_refl _) (.cells (sv [C.data.toList]).toArray 9))).size))
  have L11 := Lib.hid ((((L10.out).below (below_alloc (Below.refl _ _) (Nat.le_refl _) (.cells (sv [C.data.toList]).toArray 9)))).below hb)
  clear hb
  go_wp2_with fail
  refine (SG1.out _ _ _ _ _ L11.out (HE.out.new B11.out)).mono ?_
  rintro _ w12 ⟨ya12, c12, d12, _, rfl, rfl, -, hv, hb⟩
  have B12 := Lib.hid ((B11.out).trans (hb.mono (B11.out).size))
  have L12 := Lib.hid ((L11.out).below hb)
  have V12 := Lib.hid hv
  clear hv
  clear hb
  go_wp2_with fail
  refine (strings_same [B.data.toList, C.data.toList] 2 rfl (by omega) _ _ _ _ _ _ _ _ _ ((V12.out).below (below_alloc (Below.refl _ _) (Nat.le_refl _) (.cells (sv [B.data.toList, C.data.toList]).toArray 9))) (lv_lit w12 [B.data.toList, C.data.toList])).mono ?_
  rintro _ w13 ⟨rfl, hb⟩
  have B13 := Lib.hid (((below_alloc B12.out (Nat.le_refl _) (.cells (sv [B.data.toList, C.data.toList]).toArray 9))).trans (hb.mono ((below_alloc B12.out (Nat.le_refl _) (.cells (sv [B.data.toList, C.data.toList]).toArray 9))).size))
  have L13 := Lib.hid ((((L12.out).below (below_alloc (Below.refl _ _) (Nat.le_refl _) (.cells (sv [B.data.toList, C.data.toList]).toArray 9)))).below hb)
  clear hb
  go_wp2_with fail
  refine (SR2.out _ (HE.out.new B13.out)).mono ?_
  rintro _ w14 ⟨rfl, hb⟩
  have B14 := Lib.hid ((B13.out).trans (hb.mono (B13.out).size))
  have L14 := Lib.hid ((L13.out).below hb)
  clear hb
  go_wp2_with fail
  refine (SK2.out _ _ _ _ _ (lv_lit w14 [T.data.toList]) (HE.out.new (below_alloc B14.out (Nat.le_refl _) (.cells (sv [T.data.toList]).toArray 9)))).mono ?_
  rintro _ w15 ⟨rfl, hb⟩
  have B15 := Lib.hid (((below_alloc B14.out (Nat.le_refl _) (.cells (sv [T.data.toList]).toArray 9))).trans (hb.mono ((below_alloc B14.out (Nat.le_refl _) (.cells (sv [T.data.toList]).toArray 9))).size))
  have L15 := Lib.hid ((((L14.out).below (below_alloc (Below.refl _ _) (Nat.le_refl _) (.cells (sv [T.data.toList]).toArray 9)))).below hb)
  clear hb
  go_wp2_with fail
  refine (SK1.out _ _ _ _ _ (lv_lit w15 [T.data.toList]) (HE.out.new (below_alloc B15.out (Nat.le_refl _) (.cells (sv [T.data.toList]).toArray 9)))).mono ?_
  rintro _ w16 ⟨rfl, hb⟩
  have B16 := Lib.hid (((below_alloc B15.out (Nat.le_refl _) (.cells (sv [T.data.toList]).toArray 9))).trans (hb.mono ((below_alloc B15.out (Nat.le_refl _) (.cells (sv [T.data.toList]).toArray 9))).size))
  have L16 := Lib.hid ((((L15.out).below (below_alloc (Below.refl _ _) (Nat.le_refl _) (.cells (sv [T.data.toList]).toArray 9)))).below hb)
  clear hb
  go_wp2_with fail
  refine (SK3.out _ _ _ _ _ (lv_lit w16 [C.data.toList]) (HE.out.new (below_alloc B16.out (Nat.le_refl _) (.cells (sv [C.data.toList]).toArray 9)))).mono ?_
  rintro _ w17 ⟨rfl, hb⟩
  have B17 := Lib.hid (((below_alloc B16.out (Nat.le_refl _) (.cells (sv [C.data.toList]).toArray 9))).trans (hb.mono ((below_alloc B16.out (Nat.le_refl _) (.cells (sv [C.data.toList]).toArray 9))).size))
  have L17 := Lib.hid ((((L16.out).below (below_alloc (Below.refl _ _) (Nat.le_refl _) (.cells (sv [C.data.toList]).toArray 9)))).below hb)
  clear hb
  go_wp2_with fail
  go_ret
  exact ⟨rfl, B17.out⟩
end Go.Proofs.YteiabaddmclmlaaDoor
