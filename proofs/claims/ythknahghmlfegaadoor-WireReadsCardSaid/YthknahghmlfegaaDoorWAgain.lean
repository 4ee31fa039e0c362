/-
  The law WireAgain: what a reader reads at the beginning has exactly what was read as its encoding.
-/
import Derived.Test.YthknahghmlfegaaDoorWSmall
namespace Go.Proofs.YthknahghmlfegaaDoor
open Go Go.RowKit Go.Shelf

theorem nums_takeNum {l t : List UInt8} {y : Int} (h : Wr.takeNum 59 l = some (y, t)) : l = Wr.encNum y ++ t := by
  obtain ⟨h1, _, h3⟩ := Wr.takeNum_some h
  have e : Wr.encNum y = Wr.encInt y := by unfold Wr.encNum; rw [if_neg (by omega)]
  rw [e, h1]; unfold Wr.encInt; simp
/-- The bytes that were read. -/
theorem front_eq {s R T : ByteArray} (h : s.data.toList = T.data.toList ++ R.data.toList) : s.extract 0 (max 0 (min ((s.size : Int) - R.size) s.size)).toNat = T := by
  have h1 := Lib.size_eq s
  have h2 := Lib.size_eq R
  have h3 := Lib.size_eq T
  have h4 := congrArg List.length h
  rw [List.length_append] at h4
  rw [show (max 0 (min ((s.size : Int) - R.size) s.size)).toNat = T.size from by omega, show s.extract 0 T.size = T from by
    apply ByteArray.ext; apply Array.ext'; rw [Lib.extract_data, List.drop_zero, Nat.sub_zero, h, List.take_left' (by omega)]]
namespace Wr
theorem takeMany_all {α : Type} {f : List UInt8 → Option (α × List UInt8)} {P : α → Prop} (hf : ∀ l x r, f l = some (x, r) → P x) : ∀ (n : Nat) (l r : List UInt8) (xs : List α), takeMany f n l = some (xs, r) → ∀ x ∈ xs, P x
  | 0, l, r, xs, h => by
    rw [takeMany] at h
    injection h with h
    injection h with h1 _
    subst h1
    intro x hx; cases hx
  | k + 1, l, r, xs, h => by
    rw [takeMany] at h
    split at h
    · rename_i x t hx
      obtain ⟨p, hp, he⟩ := Option.map_eq_some_iff.1 h
      injection he with h1 _
      subst h1
      intro z hz
      rcases List.mem_cons.1 hz with rfl | hz
      · exact hf _ _ _ hx
      · exact takeMany_all hf k t p.2 p.1 hp z hz
    · cases h
theorem takeList_all {α : Type} {f : List UInt8 → Option (α × List UInt8)} {P : α → Prop} (hf : ∀ l x r, f l = some (x, r) → P x) {l r : List UInt8} {xs : List α} (h : takeList f l = some (xs, r)) : ∀ x ∈ xs, P x := by
  unfold takeList at h
  split at h
  · split at h
    · rename_i ys u hy
      obtain ⟨v, _, hp⟩ := Option.map_eq_some_iff.1 h
      injection hp with h1 _
      subst h1
      exact takeMany_all hf _ _ _ _ hy
    · cases h
  · cases h
theorem flat_ge {α : Type} {enc : α → List UInt8} (he : ∀ x, 1 ≤ (enc x).length) : ∀ xs : List α, xs.length ≤ (xs.map enc).flatten.length
  | [] => by simp
  | x :: r => by
    have h1 := flat_ge he r
    have h2 := he x
    simp only [List.map_cons, List.flatten_cons, List.length_append, List.length_cons]
    omega
theorem list_len {α : Type} {enc : α → List UInt8} {s t : List UInt8} {y : List α} (he : ∀ x, 1 ≤ (enc x).length) (hst : s = encList enc y ++ t) : y.length ≤ s.length ∧ (y.map enc).flatten.length ≤ s.length := by
  have h1 := flat_ge he y
  rw [hst]
  unfold encList
  simp only [List.length_append, List.length_cons]
  omega
theorem encInt_pos (n : Int) : 1 ≤ (encInt n).length := by unfold encInt; simp
theorem encText_pos (s : List UInt8) : 1 ≤ (encText s).length := by unfold encText; simp; omega
end Wr

set_option maxHeartbeats 4000000 in
set_option maxRecDepth 100000 in
theorem again_0_none (s : ByteArray) (k : Int) (W : World) (hE : Env W) (hs : s.size ≤ 400) (hk : k % 5 = 0) (hx : Wr.takeNum 59 s.data.toList = none) :
    Calls Tryd.prog 6 #[.string s, .int .i64 k] W fun e w' => e = .returned (.bool true) ∧ Below W.heap.size W w' := by
  have HE := Lib.hid hE
  have HK := Lib.hid (fun w => kind_any k 0 ⟨#[]⟩ none none 0 0 0 0 w)
  rw [hk] at HK
  have HX := Lib.hid hx
  clear hE hk hx
  go_enter Tryd.func6, Tryd.ntmps6
  go_wp2_with fail
  refine (small_any W HE.out).mono ?_
  rintro x w1 ⟨rfl, hb⟩
  have HB1 := Lib.hid hb
  clear hb
  go_wp2_with fail
  refine (open_any _ _).mono ?_
  rintro x w2 ⟨rfl, hR, hb⟩
  have HR2 := Lib.hid hR
  have HB2 := Lib.hid (HB1.out.trans (hb.mono HB1.out.size))
  clear hR hb
  go_wp2_with fail
  refine (HK.out _).mono ?_
  rintro x w3 ⟨rfl, hb⟩
  have HR3 := Lib.hid (HR2.out.below hb)
  have HB3 := Lib.hid (HB2.out.trans (hb.mono HB2.out.size))
  clear hb
  have HQ := Lib.hid (num_any w1.heap.size s false _ HR3.out (HE.out.new HB3.out) (by omega))
  rw [HX.out] at HQ
  simp only [Wr.vOf, Wr.rOf, Wr.bOf] at HQ
  go_wp2_with fail
  refine HQ.out.mono ?_
  rintro x w4 ⟨rfl, hR, hg⟩
  have HR4 := Lib.hid hR
  have HB4 := Lib.hid (HB3.out.trans (Gr.below hg HB3.out.size HB1.out.size))
  have hE4 := HE.out.new HB4.out
  have HE4 := Lib.hid hE4
  have HZ4 := Lib.hid (show w1.heap.size < w4.heap.size from HR4.out.lt)
  clear hR hg hE4
  go_wp2_with fail
  refine (wnum_any 0 (by unfold Wr.i64; omega) _ HE4.out).mono ?_
  rintro x w5 ⟨rfl, hb⟩
  have HR5 := Lib.hid (HR4.out.below hb)
  have HB5 := Lib.hid (HB4.out.trans (hb.mono HB4.out.size))
  clear hb
  go_wp2_with fail
  refine (left_any _ _ _ _ HR5.out).mono ?_
  rintro x w' ⟨rfl, rfl⟩
  go_wp2_with fail
  refine (done_any _ _ _ _ HR5.out).mono ?_
  rintro x w' ⟨rfl, rfl⟩
  go_wp2
  go_ret
  exact ⟨rfl, HB5.out⟩

set_option maxHeartbeats 4000000 in
set_option maxRecDepth 100000 in
theorem again_0_some (s : ByteArray) (k : Int) (W : World) (hE : Env W) (hs : s.size ≤ 400) (hk : k % 5 = 0) (y : Int) (t : List UInt8) (hx : Wr.takeNum 59 s.data.toList = some (y, t)) :
    Calls Tryd.prog 6 #[.string s, .int .i64 k] W fun e w' => e = .returned (.bool true) ∧ Below W.heap.size W w' := by
  have HE := Lib.hid hE
  have HK := Lib.hid (fun w => kind_any k 0 ⟨#[]⟩ none none 0 0 0 0 w)
  rw [hk] at HK
  have HX := Lib.hid hx
  have hst : s.data.toList = Wr.encNum y ++ t := nums_takeNum hx
  obtain ⟨R, hR⟩ : ∃ R : ByteArray, (⟨t.toArray⟩ : ByteArray) = R := ⟨_, rfl⟩
  obtain ⟨T, hT⟩ : ∃ T : ByteArray, (⟨(Wr.encNum y).toArray⟩ : ByteArray) = T := ⟨_, rfl⟩
  have hRl : R.data.toList = t := by rw [← hR]
  have hTl : T.data.toList = Wr.encNum y := by rw [← hT]
  have hsl : s.data.toList = T.data.toList ++ R.data.toList := by rw [hTl, hRl]; exact hst
  have hle : R.size ≤ s.size := by
    have h1 := congrArg List.length hsl
    rw [List.length_append, ← Lib.size_eq, ← Lib.size_eq, ← Lib.size_eq] at h1
    omega
  have hfr := front_eq hsl
  have hcmp : (T.toList == T.toList) = true := by simp
  have HI := Lib.hid (Wr.takeNum_some hx).2.1
  have HT := Lib.hid hT
  have HRR := Lib.hid hR
  have hR0 : (((R.size : Int) == 0) = true ∧ R.toList.isEmpty = true) ∨ ((R.size : Int) == 0) = false := by
    by_cases h : R.size = 0
    · left
      have h1 := Lib.size_eq R
      have h2 : R.data.toList = [] := List.eq_nil_of_length_eq_zero (by omega)
      exact ⟨by rw [h]; rfl, by rw [Lib.toList_data, h2]; rfl⟩
    · right
      simpa using h
  clear hE hk hx hst hT hR hRl hTl hsl
  rcases hR0 with ⟨hz1, hz2⟩ | hz1
  all_goals
    go_enter Tryd.func6, Tryd.ntmps6
    go_wp2_with fail
    refine (small_any W HE.out).mono ?_
    rintro x w1 ⟨rfl, hb⟩
    have HB1 := Lib.hid hb
    clear hb
    go_wp2_with fail
    refine (open_any _ _).mono ?_
    rintro x w2 ⟨rfl, hR, hb⟩
    have HR2 := Lib.hid hR
    have HB2 := Lib.hid (HB1.out.trans (hb.mono HB1.out.size))
    clear hR hb
    go_wp2_with fail
    refine (HK.out _).mono ?_
    rintro x w3 ⟨rfl, hb⟩
    have HR3 := Lib.hid (HR2.out.below hb)
    have HB3 := Lib.hid (HB2.out.trans (hb.mono HB2.out.size))
    clear hb
    have HQ := Lib.hid (num_any w1.heap.size s false _ HR3.out (HE.out.new HB3.out) (by omega))
    rw [HX.out] at HQ
    simp only [Wr.vOf, Wr.rOf, Wr.bOf] at HQ
    rw [HRR.out] at HQ
    go_wp2_with fail
    refine HQ.out.mono ?_
    rintro x w4 ⟨rfl, hR, hg⟩
    have HR4 := Lib.hid hR
    have HB4 := Lib.hid (HB3.out.trans (Gr.below hg HB3.out.size HB1.out.size))
    have hE4 := HE.out.new HB4.out
    have HE4 := Lib.hid hE4
    have HZ4 := Lib.hid (show w1.heap.size < w4.heap.size from HR4.out.lt)
    have HW := Lib.hid (wnum_any y HI.out _ HE4.out)
    rw [HT.out] at HW
    clear hR hg hE4
    go_wp2_with fail
    refine HW.out.mono ?_
    rintro x w5 ⟨rfl, hb⟩
    have HR5 := Lib.hid (HR4.out.below hb)
    have HB5 := Lib.hid (HB4.out.trans (hb.mono HB4.out.size))
    clear hb
    go_wp2_with fail
    refine (left_any _ _ _ _ HR5.out).mono ?_
    rintro x w' ⟨rfl, rfl⟩
    go_wp2_with fail
    first
    | (refine (done_any _ _ _ _ HR5.out).mono ?_
       rintro x w' ⟨rfl, rfl⟩
       go_wp2_with fail
       refine (left_any _ _ _ _ HR5.out).mono ?_
       rintro x w' ⟨rfl, rfl⟩)
    | (refine (left_any _ _ _ _ HR5.out).mono ?_
       rintro x w' ⟨rfl, rfl⟩)
    go_wp2
    go_ret
    exact ⟨rfl, HB5.out⟩

set_option maxHeartbeats 4000000 in
set_option maxRecDepth 100000 in
theorem again_1_none (s : ByteArray) (k : Int) (W : World) (hE : Env W) (hs : s.size ≤ 400) (hk : k % 5 = 1) (hx : Wr.takeInt 59 s.data.toList = none) :
    Calls Tryd.prog 6 #[.string s, .int .i64 k] W fun e w' => e = .returned (.bool true) ∧ Below W.heap.size W w' := by
  have HE := Lib.hid hE
  have HK := Lib.hid (fun w => kind_any k 0 ⟨#[]⟩ none none 0 0 0 0 w)
  rw [hk] at HK
  have HX := Lib.hid hx
  clear hE hk hx
  go_enter Tryd.func6, Tryd.ntmps6
  go_wp2_with fail
  refine (small_any W HE.out).mono ?_
  rintro x w1 ⟨rfl, hb⟩
  have HB1 := Lib.hid hb
  clear hb
  go_wp2_with fail
  refine (open_any _ _).mono ?_
  rintro x w2 ⟨rfl, hR, hb⟩
  have HR2 := Lib.hid hR
  have HB2 := Lib.hid (HB1.out.trans (hb.mono HB1.out.size))
  clear hR hb
  go_wp2_with fail
  refine (HK.out _).mono ?_
  rintro x w3 ⟨rfl, hb⟩
  have HR3 := Lib.hid (HR2.out.below hb)
  have HB3 := Lib.hid (HB2.out.trans (hb.mono HB2.out.size))
  clear hb
  have HQ := Lib.hid (int_any w1.heap.size s false _ HR3.out (HE.out.new HB3.out) (by omega))
  rw [HX.out] at HQ
  simp only [Wr.vOf, Wr.rOf, Wr.bOf] at HQ
  go_wp2_with fail
  refine HQ.out.mono ?_
  rintro x w4 ⟨rfl, hR, hg⟩
  have HR4 := Lib.hid hR
  have HB4 := Lib.hid (HB3.out.trans (Gr.below hg HB3.out.size HB1.out.size))
  have hE4 := HE.out.new HB4.out
  have HE4 := Lib.hid hE4
  have HZ4 := Lib.hid (show w1.heap.size < w4.heap.size from HR4.out.lt)
  clear hR hg hE4
  go_wp2_with fail
  refine (wint_any 0 (by unfold Wr.i64; omega) _ HE4.out).mono ?_
  rintro x w5 ⟨rfl, hb⟩
  have HR5 := Lib.hid (HR4.out.below hb)
  have HB5 := Lib.hid (HB4.out.trans (hb.mono HB4.out.size))
  clear hb
  go_wp2_with fail
  refine (left_any _ _ _ _ HR5.out).mono ?_
  rintro x w' ⟨rfl, rfl⟩
  go_wp2_with fail
  refine (done_any _ _ _ _ HR5.out).mono ?_
  rintro x w' ⟨rfl, rfl⟩
  go_wp2
  go_ret
  exact ⟨rfl, HB5.out⟩

set_option maxHeartbeats 4000000 in
set_option maxRecDepth 100000 in
theorem again_1_some (s : ByteArray) (k : Int) (W : World) (hE : Env W) (hs : s.size ≤ 400) (hk : k % 5 = 1) (y : Int) (t : List UInt8) (hx : Wr.takeInt 59 s.data.toList = some (y, t)) :
    Calls Tryd.prog 6 #[.string s, .int .i64 k] W fun e w' => e = .returned (.bool true) ∧ Below W.heap.size W w' := by
  have HE := Lib.hid hE
  have HK := Lib.hid (fun w => kind_any k 0 ⟨#[]⟩ none none 0 0 0 0 w)
  rw [hk] at HK
  have HX := Lib.hid hx
  have hst : s.data.toList = Wr.encInt y ++ t := Wr.nums_takeInt _ _ _ hx
  obtain ⟨R, hR⟩ : ∃ R : ByteArray, (⟨t.toArray⟩ : ByteArray) = R := ⟨_, rfl⟩
  obtain ⟨T, hT⟩ : ∃ T : ByteArray, (⟨(Wr.encInt y).toArray⟩ : ByteArray) = T := ⟨_, rfl⟩
  have hRl : R.data.toList = t := by rw [← hR]
  have hTl : T.data.toList = Wr.encInt y := by rw [← hT]
  have hsl : s.data.toList = T.data.toList ++ R.data.toList := by rw [hTl, hRl]; exact hst
  have hle : R.size ≤ s.size := by
    have h1 := congrArg List.length hsl
    rw [List.length_append, ← Lib.size_eq, ← Lib.size_eq, ← Lib.size_eq] at h1
    omega
  have hfr := front_eq hsl
  have hcmp : (T.toList == T.toList) = true := by simp
  have HI := Lib.hid (Wr.takeInt_some hx).2
  have HT := Lib.hid hT
  have HRR := Lib.hid hR
  have hR0 : (((R.size : Int) == 0) = true ∧ R.toList.isEmpty = true) ∨ ((R.size : Int) == 0) = false := by
    by_cases h : R.size = 0
    · left
      have h1 := Lib.size_eq R
      have h2 : R.data.toList = [] := List.eq_nil_of_length_eq_zero (by omega)
      exact ⟨by rw [h]; rfl, by rw [Lib.toList_data, h2]; rfl⟩
    · right
      simpa using h
  clear hE hk hx hst hT hR hRl hTl hsl
  rcases hR0 with ⟨hz1, hz2⟩ | hz1
  all_goals
    go_enter Tryd.func6, Tryd.ntmps6
    go_wp2_with fail
    refine (small_any W HE.out).mono ?_
    rintro x w1 ⟨rfl, hb⟩
    have HB1 := Lib.hid hb
    clear hb
    go_wp2_with fail
    refine (open_any _ _).mono ?_
    rintro x w2 ⟨rfl, hR, hb⟩
    have HR2 := Lib.hid hR
    have HB2 := Lib.hid (HB1.out.trans (hb.mono HB1.out.size))
    clear hR hb
    go_wp2_with fail
    refine (HK.out _).mono ?_
    rintro x w3 ⟨rfl, hb⟩
    have HR3 := Lib.hid (HR2.out.below hb)
    have HB3 := Lib.hid (HB2.out.trans (hb.mono HB2.out.size))
    clear hb
    have HQ := Lib.hid (int_any w1.heap.size s false _ HR3.out (HE.out.new HB3.out) (by omega))
    rw [HX.out] at HQ
    simp only [Wr.vOf, Wr.rOf, Wr.bOf] at HQ
    rw [HRR.out] at HQ
    go_wp2_with fail
    refine HQ.out.mono ?_
    rintro x w4 ⟨rfl, hR, hg⟩
    have HR4 := Lib.hid hR
    have HB4 := Lib.hid (HB3.out.trans (Gr.below hg HB3.out.size HB1.out.size))
    have hE4 := HE.out.new HB4.out
    have HE4 := Lib.hid hE4
    have HZ4 := Lib.hid (show w1.heap.size < w4.heap.size from HR4.out.lt)
    have HW := Lib.hid (wint_any y HI.out _ HE4.out)
    rw [HT.out] at HW
    clear hR hg hE4
    go_wp2_with fail
    refine HW.out.mono ?_
    rintro x w5 ⟨rfl, hb⟩
    have HR5 := Lib.hid (HR4.out.below hb)
    have HB5 := Lib.hid (HB4.out.trans (hb.mono HB4.out.size))
    clear hb
    go_wp2_with fail
    refine (left_any _ _ _ _ HR5.out).mono ?_
    rintro x w' ⟨rfl, rfl⟩
    go_wp2_with fail
    first
    | (refine (done_any _ _ _ _ HR5.out).mono ?_
       rintro x w' ⟨rfl, rfl⟩
       go_wp2_with fail
       refine (left_any _ _ _ _ HR5.out).mono ?_
       rintro x w' ⟨rfl, rfl⟩)
    | (refine (left_any _ _ _ _ HR5.out).mono ?_
       rintro x w' ⟨rfl, rfl⟩)
    go_wp2
    go_ret
    exact ⟨rfl, HB5.out⟩

set_option maxHeartbeats 4000000 in
set_option maxRecDepth 100000 in
theorem again_2_none (s : ByteArray) (k : Int) (W : World) (hE : Env W) (hs : s.size ≤ 400) (hk : k % 5 = 2) (hx : Wr.takeText s.data.toList = none) :
    Calls Tryd.prog 6 #[.string s, .int .i64 k] W fun e w' => e = .returned (.bool true) ∧ Below W.heap.size W w' := by
  have HE := Lib.hid hE
  have HK := Lib.hid (fun w => kind_any k 0 ⟨#[]⟩ none none 0 0 0 0 w)
  rw [hk] at HK
  have HX := Lib.hid hx
  clear hE hk hx
  go_enter Tryd.func6, Tryd.ntmps6
  go_wp2_with fail
  refine (small_any W HE.out).mono ?_
  rintro x w1 ⟨rfl, hb⟩
  have HB1 := Lib.hid hb
  clear hb
  go_wp2_with fail
  refine (open_any _ _).mono ?_
  rintro x w2 ⟨rfl, hR, hb⟩
  have HR2 := Lib.hid hR
  have HB2 := Lib.hid (HB1.out.trans (hb.mono HB1.out.size))
  clear hR hb
  go_wp2_with fail
  refine (HK.out _).mono ?_
  rintro x w3 ⟨rfl, hb⟩
  have HR3 := Lib.hid (HR2.out.below hb)
  have HB3 := Lib.hid (HB2.out.trans (hb.mono HB2.out.size))
  clear hb
  have HQ := Lib.hid (text_any w1.heap.size s false _ HR3.out (HE.out.new HB3.out) (by omega))
  rw [HX.out] at HQ
  simp only [Wr.vOf, Wr.rOf, Wr.bOf] at HQ
  go_wp2_with fail
  refine HQ.out.mono ?_
  rintro x w4 ⟨rfl, hR, hg⟩
  have HR4 := Lib.hid hR
  have HB4 := Lib.hid (HB3.out.trans (Gr.below hg HB3.out.size HB1.out.size))
  have hE4 := HE.out.new HB4.out
  have HE4 := Lib.hid hE4
  have HZ4 := Lib.hid (show w1.heap.size < w4.heap.size from HR4.out.lt)
  clear hR hg hE4
  go_wp2_with fail
  refine (wtext_any ⟨#[]⟩ (by decide) _ HE4.out).mono ?_
  rintro x w5 ⟨rfl, hb⟩
  have HR5 := Lib.hid (HR4.out.below hb)
  have HB5 := Lib.hid (HB4.out.trans (hb.mono HB4.out.size))
  clear hb
  go_wp2_with fail
  refine (left_any _ _ _ _ HR5.out).mono ?_
  rintro x w' ⟨rfl, rfl⟩
  go_wp2_with fail
  refine (done_any _ _ _ _ HR5.out).mono ?_
  rintro x w' ⟨rfl, rfl⟩
  go_wp2
  go_ret
  exact ⟨rfl, HB5.out⟩

set_option maxHeartbeats 4000000 in
set_option maxRecDepth 100000 in
theorem again_2_some (s : ByteArray) (k : Int) (W : World) (hE : Env W) (hs : s.size ≤ 400) (hk : k % 5 = 2) (y : List UInt8) (t : List UInt8) (hx : Wr.takeText s.data.toList = some (y, t)) :
    Calls Tryd.prog 6 #[.string s, .int .i64 k] W fun e w' => e = .returned (.bool true) ∧ Below W.heap.size W w' := by
  have HE := Lib.hid hE
  have HK := Lib.hid (fun w => kind_any k 0 ⟨#[]⟩ none none 0 0 0 0 w)
  rw [hk] at HK
  have HX := Lib.hid hx
  have hst : s.data.toList = Wr.encText y ++ t := Wr.texts_takeText _ _ _ hx
  obtain ⟨R, hR⟩ : ∃ R : ByteArray, (⟨t.toArray⟩ : ByteArray) = R := ⟨_, rfl⟩
  obtain ⟨T, hT⟩ : ∃ T : ByteArray, (⟨(Wr.encText y).toArray⟩ : ByteArray) = T := ⟨_, rfl⟩
  have hRl : R.data.toList = t := by rw [← hR]
  have hTl : T.data.toList = Wr.encText y := by rw [← hT]
  have hsl : s.data.toList = T.data.toList ++ R.data.toList := by rw [hTl, hRl]; exact hst
  have hle : R.size ≤ s.size := by
    have h1 := congrArg List.length hsl
    rw [List.length_append, ← Lib.size_eq, ← Lib.size_eq, ← Lib.size_eq] at h1
    omega
  have hfr := front_eq hsl
  have hcmp : (T.toList == T.toList) = true := by simp
  have HI : Hid ((⟨y.toArray⟩ : ByteArray).size ≤ 100000000) := by
    show _ ≤ _
    rw [Wr.bs_len]
    have h1 := congrArg List.length hst
    rw [← Lib.size_eq] at h1
    simp only [Wr.encText, List.length_append, List.length_cons] at h1
    omega
  have HT := Lib.hid hT
  have HRR := Lib.hid hR
  have hR0 : (((R.size : Int) == 0) = true ∧ R.toList.isEmpty = true) ∨ ((R.size : Int) == 0) = false := by
    by_cases h : R.size = 0
    · left
      have h1 := Lib.size_eq R
      have h2 : R.data.toList = [] := List.eq_nil_of_length_eq_zero (by omega)
      exact ⟨by rw [h]; rfl, by rw [Lib.toList_data, h2]; rfl⟩
    · right
      simpa using h
  clear hE hk hx hst hT hR hRl hTl hsl
  rcases hR0 with ⟨hz1, hz2⟩ | hz1
  all_goals
    go_enter Tryd.func6, Tryd.ntmps6
    go_wp2_with fail
    refine (small_any W HE.out).mono ?_
    rintro x w1 ⟨rfl, hb⟩
    have HB1 := Lib.hid hb
    clear hb
    go_wp2_with fail
    refine (open_any _ _).mono ?_
    rintro x w2 ⟨rfl, hR, hb⟩
    have HR2 := Lib.hid hR
    have HB2 := Lib.hid (HB1.out.trans (hb.mono HB1.out.size))
    clear hR hb
    go_wp2_with fail
    refine (HK.out _).mono ?_
    rintro x w3 ⟨rfl, hb⟩
    have HR3 := Lib.hid (HR2.out.below hb)
    have HB3 := Lib.hid (HB2.out.trans (hb.mono HB2.out.size))
    clear hb
    have HQ := Lib.hid (text_any w1.heap.size s false _ HR3.out (HE.out.new HB3.out) (by omega))
    rw [HX.out] at HQ
    simp only [Wr.vOf, Wr.rOf, Wr.bOf] at HQ
    rw [HRR.out] at HQ
    go_wp2_with fail
    refine HQ.out.mono ?_
    rintro x w4 ⟨rfl, hR, hg⟩
    have HR4 := Lib.hid hR
    have HB4 := Lib.hid (HB3.out.trans (Gr.below hg HB3.out.size HB1.out.size))
    have hE4 := HE.out.new HB4.out
    have HE4 := Lib.hid hE4
    have HZ4 := Lib.hid (show w1.heap.size < w4.heap.size from HR4.out.lt)
    have HW := Lib.hid (wtext_any ⟨y.toArray⟩ HI.out _ HE4.out)
    rw [HT.out] at HW
    clear hR hg hE4
    go_wp2_with fail
    refine HW.out.mono ?_
    rintro x w5 ⟨rfl, hb⟩
    have HR5 := Lib.hid (HR4.out.below hb)
    have HB5 := Lib.hid (HB4.out.trans (hb.mono HB4.out.size))
    clear hb
    go_wp2_with fail
    refine (left_any _ _ _ _ HR5.out).mono ?_
    rintro x w' ⟨rfl, rfl⟩
    go_wp2_with fail
    first
    | (refine (done_any _ _ _ _ HR5.out).mono ?_
       rintro x w' ⟨rfl, rfl⟩
       go_wp2_with fail
       refine (left_any _ _ _ _ HR5.out).mono ?_
       rintro x w' ⟨rfl, rfl⟩)
    | (refine (left_any _ _ _ _ HR5.out).mono ?_
       rintro x w' ⟨rfl, rfl⟩)
    go_wp2
    go_ret
    exact ⟨rfl, HB5.out⟩

set_option maxHeartbeats 4000000 in
set_option maxRecDepth 100000 in
theorem again_3_none (s : ByteArray) (k : Int) (W : World) (hE : Env W) (hs : s.size ≤ 400) (hk : k % 5 = 3) (hx : Wr.takeList (Wr.takeInt 59) s.data.toList = none) :
    Calls Tryd.prog 6 #[.string s, .int .i64 k] W fun e w' => e = .returned (.bool true) ∧ Below W.heap.size W w' := by
  have HE := Lib.hid hE
  have HK := Lib.hid (fun w => kind_any k 0 ⟨#[]⟩ none none 0 0 0 0 w)
  rw [hk] at HK
  have HX := Lib.hid hx
  clear hE hk hx
  go_enter Tryd.func6, Tryd.ntmps6
  go_wp2_with fail
  refine (small_any W HE.out).mono ?_
  rintro x w1 ⟨rfl, hb⟩
  have HB1 := Lib.hid hb
  clear hb
  go_wp2_with fail
  refine (open_any _ _).mono ?_
  rintro x w2 ⟨rfl, hR, hb⟩
  have HR2 := Lib.hid hR
  have HB2 := Lib.hid (HB1.out.trans (hb.mono HB1.out.size))
  clear hR hb
  go_wp2_with fail
  refine (HK.out _).mono ?_
  rintro x w3 ⟨rfl, hb⟩
  have HR3 := Lib.hid (HR2.out.below hb)
  have HB3 := Lib.hid (HB2.out.trans (hb.mono HB2.out.size))
  clear hb
  have HQ := Lib.hid (nums_any w1.heap.size s false _ HR3.out (fun h => by cases h) (HE.out.new HB3.out) (Nat.le_trans HE.out.size HB1.out.size) (by omega))
  rw [HX.out] at HQ
  simp only [Wr.vOf, Wr.rOf, Wr.bOf, List.length_nil, List.map_nil] at HQ
  go_wp2_with fail
  refine HQ.out.mono ?_
  rintro x w4 ⟨v, rfl, hrow, hR, hg⟩
  obtain ⟨xa, b, cap, rfl, hV, _⟩ := rowV_own hrow
  have HV := Lib.hid hV
  clear hV hrow
  have HR4 := Lib.hid hR
  have HB4 := Lib.hid (HB3.out.trans (Gr.below hg HB3.out.size HB1.out.size))
  have hE4 := HE.out.new HB4.out
  have HE4 := Lib.hid hE4
  have HZ4 := Lib.hid (show w1.heap.size < w4.heap.size from HR4.out.lt)
  clear hR hg hE4
  go_wp2_with fail
  refine (wnums_any xa b 0 cap [] _ HV.out (by simp) (by simp) (fun x hx => by cases hx) HE4.out).mono ?_
  rintro x w5 ⟨rfl, hb⟩
  have HR5 := Lib.hid (HR4.out.below hb)
  have HB5 := Lib.hid (HB4.out.trans (hb.mono HB4.out.size))
  clear hb
  go_wp2_with fail
  refine (left_any _ _ _ _ HR5.out).mono ?_
  rintro x w' ⟨rfl, rfl⟩
  go_wp2_with fail
  refine (done_any _ _ _ _ HR5.out).mono ?_
  rintro x w' ⟨rfl, rfl⟩
  go_wp2
  go_ret
  exact ⟨rfl, HB5.out⟩

set_option maxHeartbeats 4000000 in
set_option maxRecDepth 100000 in
theorem again_3_some (s : ByteArray) (k : Int) (W : World) (hE : Env W) (hs : s.size ≤ 400) (hk : k % 5 = 3) (y : List Int) (t : List UInt8) (hx : Wr.takeList (Wr.takeInt 59) s.data.toList = some (y, t)) :
    Calls Tryd.prog 6 #[.string s, .int .i64 k] W fun e w' => e = .returned (.bool true) ∧ Below W.heap.size W w' := by
  have HE := Lib.hid hE
  have HK := Lib.hid (fun w => kind_any k 0 ⟨#[]⟩ none none 0 0 0 0 w)
  rw [hk] at HK
  have HX := Lib.hid hx
  have hst : s.data.toList = Wr.encList Wr.encInt y ++ t := (Wr.takeList_some Wr.nums_takeInt hx).1
  obtain ⟨R, hR⟩ : ∃ R : ByteArray, (⟨t.toArray⟩ : ByteArray) = R := ⟨_, rfl⟩
  obtain ⟨T, hT⟩ : ∃ T : ByteArray, (⟨(Wr.encList Wr.encInt y).toArray⟩ : ByteArray) = T := ⟨_, rfl⟩
  have hRl : R.data.toList = t := by rw [← hR]
  have hTl : T.data.toList = Wr.encList Wr.encInt y := by rw [← hT]
  have hsl : s.data.toList = T.data.toList ++ R.data.toList := by rw [hTl, hRl]; exact hst
  have hle : R.size ≤ s.size := by
    have h1 := congrArg List.length hsl
    rw [List.length_append, ← Lib.size_eq, ← Lib.size_eq, ← Lib.size_eq] at h1
    omega
  have hfr := front_eq hsl
  have hcmp : (T.toList == T.toList) = true := by simp
  have hll := Wr.list_len Wr.encInt_pos hst
  rw [← Lib.size_eq] at hll
  obtain ⟨hl1, hl2⟩ := hll
  have HL1 : Hid (y.length ≤ 1000000) := by show _ ≤ _; omega
  have HL2 : Hid ((y.map Wr.encInt).flatten.length ≤ 100000000) := by show _ ≤ _; omega
  clear hl1 hl2
  have HI := Lib.hid (Wr.takeList_all (P := Wr.i64) (fun l x r h => (Wr.takeInt_some h).2) hx)
  have HT := Lib.hid hT
  have HRR := Lib.hid hR
  have hR0 : (((R.size : Int) == 0) = true ∧ R.toList.isEmpty = true) ∨ ((R.size : Int) == 0) = false := by
    by_cases h : R.size = 0
    · left
      have h1 := Lib.size_eq R
      have h2 : R.data.toList = [] := List.eq_nil_of_length_eq_zero (by omega)
      exact ⟨by rw [h]; rfl, by rw [Lib.toList_data, h2]; rfl⟩
    · right
      simpa using h
  clear hE hk hx hst hT hR hRl hTl hsl
  rcases hR0 with ⟨hz1, hz2⟩ | hz1
  all_goals
    go_enter Tryd.func6, Tryd.ntmps6
    go_wp2_with fail
    refine (small_any W HE.out).mono ?_
    rintro x w1 ⟨rfl, hb⟩
    have HB1 := Lib.hid hb
    clear hb
    go_wp2_with fail
    refine (open_any _ _).mono ?_
    rintro x w2 ⟨rfl, hR, hb⟩
    have HR2 := Lib.hid hR
    have HB2 := Lib.hid (HB1.out.trans (hb.mono HB1.out.size))
    clear hR hb
    go_wp2_with fail
    refine (HK.out _).mono ?_
    rintro x w3 ⟨rfl, hb⟩
    have HR3 := Lib.hid (HR2.out.below hb)
    have HB3 := Lib.hid (HB2.out.trans (hb.mono HB2.out.size))
    clear hb
    have HQ := Lib.hid (nums_any w1.heap.size s false _ HR3.out (fun h => by cases h) (HE.out.new HB3.out) (Nat.le_trans HE.out.size HB1.out.size) (by omega))
    rw [HX.out] at HQ
    simp only [Wr.vOf, Wr.rOf, Wr.bOf] at HQ
    rw [HRR.out] at HQ
    go_wp2_with fail
    refine HQ.out.mono ?_
    rintro x w4 ⟨v, rfl, hrow, hR, hg⟩
    obtain ⟨xa, b, cap, rfl, hV, _⟩ := rowV_own hrow
    have HV := Lib.hid hV
    clear hV hrow
    have HR4 := Lib.hid hR
    have HB4 := Lib.hid (HB3.out.trans (Gr.below hg HB3.out.size HB1.out.size))
    have hE4 := HE.out.new HB4.out
    have HE4 := Lib.hid hE4
    have HZ4 := Lib.hid (show w1.heap.size < w4.heap.size from HR4.out.lt)
    have HW := Lib.hid (wnums_any xa b 0 cap y _ HV.out HL1.out HL2.out HI.out HE4.out)
    rw [HT.out] at HW
    clear hR hg hE4
    go_wp2_with fail
    refine HW.out.mono ?_
    rintro x w5 ⟨rfl, hb⟩
    have HR5 := Lib.hid (HR4.out.below hb)
    have HB5 := Lib.hid (HB4.out.trans (hb.mono HB4.out.size))
    clear hb
    go_wp2_with fail
    refine (left_any _ _ _ _ HR5.out).mono ?_
    rintro x w' ⟨rfl, rfl⟩
    go_wp2_with fail
    first
    | (refine (done_any _ _ _ _ HR5.out).mono ?_
       rintro x w' ⟨rfl, rfl⟩
       go_wp2_with fail
       refine (left_any _ _ _ _ HR5.out).mono ?_
       rintro x w' ⟨rfl, rfl⟩)
    | (refine (left_any _ _ _ _ HR5.out).mono ?_
       rintro x w' ⟨rfl, rfl⟩)
    go_wp2
    go_ret
    exact ⟨rfl, HB5.out⟩

set_option maxHeartbeats 4000000 in
set_option maxRecDepth 100000 in
theorem again_4_none (s : ByteArray) (k : Int) (W : World) (hE : Env W) (hs : s.size ≤ 400) (hk : k % 5 = 4) (hx : Wr.takeList Wr.takeText s.data.toList = none) :
    Calls Tryd.prog 6 #[.string s, .int .i64 k] W fun e w' => e = .returned (.bool true) ∧ Below W.heap.size W w' := by
  have HE := Lib.hid hE
  have HK := Lib.hid (fun w => kind_any k 0 ⟨#[]⟩ none none 0 0 0 0 w)
  rw [hk] at HK
  have HX := Lib.hid hx
  clear hE hk hx
  go_enter Tryd.func6, Tryd.ntmps6
  go_wp2_with fail
  refine (small_any W HE.out).mono ?_
  rintro x w1 ⟨rfl, hb⟩
  have HB1 := Lib.hid hb
  clear hb
  go_wp2_with fail
  refine (open_any _ _).mono ?_
  rintro x w2 ⟨rfl, hR, hb⟩
  have HR2 := Lib.hid hR
  have HB2 := Lib.hid (HB1.out.trans (hb.mono HB1.out.size))
  clear hR hb
  go_wp2_with fail
  refine (HK.out _).mono ?_
  rintro x w3 ⟨rfl, hb⟩
  have HR3 := Lib.hid (HR2.out.below hb)
  have HB3 := Lib.hid (HB2.out.trans (hb.mono HB2.out.size))
  clear hb
  have HQ := Lib.hid (texts_any w1.heap.size s false _ HR3.out (fun h => by cases h) (HE.out.new HB3.out) (Nat.le_trans HE.out.size HB1.out.size) (by omega))
  rw [HX.out] at HQ
  simp only [Wr.vOf, Wr.rOf, Wr.bOf, List.length_nil, List.map_nil] at HQ
  go_wp2_with fail
  refine HQ.out.mono ?_
  rintro x w4 ⟨v, rfl, hrow, hR, hg⟩
  obtain ⟨xa, b, cap, rfl, hV, _⟩ := rowV_own hrow
  have HV := Lib.hid hV
  clear hV hrow
  have HR4 := Lib.hid hR
  have HB4 := Lib.hid (HB3.out.trans (Gr.below hg HB3.out.size HB1.out.size))
  have hE4 := HE.out.new HB4.out
  have HE4 := Lib.hid hE4
  have HZ4 := Lib.hid (show w1.heap.size < w4.heap.size from HR4.out.lt)
  clear hR hg hE4
  go_wp2_with fail
  refine (wtexts_any xa b 0 cap [] _ HV.out (by simp) (by simp) HE4.out).mono ?_
  rintro x w5 ⟨rfl, hb⟩
  have HR5 := Lib.hid (HR4.out.below hb)
  have HB5 := Lib.hid (HB4.out.trans (hb.mono HB4.out.size))
  clear hb
  go_wp2_with fail
  refine (left_any _ _ _ _ HR5.out).mono ?_
  rintro x w' ⟨rfl, rfl⟩
  go_wp2_with fail
  refine (done_any _ _ _ _ HR5.out).mono ?_
  rintro x w' ⟨rfl, rfl⟩
  go_wp2
  go_ret
  exact ⟨rfl, HB5.out⟩

set_option maxHeartbeats 4000000 in
set_option maxRecDepth 100000 in
theorem again_4_some (s : ByteArray) (k : Int) (W : World) (hE : Env W) (hs : s.size ≤ 400) (hk : k % 5 = 4) (y : List (List UInt8)) (t : List UInt8) (hx : Wr.takeList Wr.takeText s.data.toList = some (y, t)) :
    Calls Tryd.prog 6 #[.string s, .int .i64 k] W fun e w' => e = .returned (.bool true) ∧ Below W.heap.size W w' := by
  have HE := Lib.hid hE
  have HK := Lib.hid (fun w => kind_any k 0 ⟨#[]⟩ none none 0 0 0 0 w)
  rw [hk] at HK
  have HX := Lib.hid hx
  have hst : s.data.toList = Wr.encList Wr.encText y ++ t := (Wr.takeList_some Wr.texts_takeText hx).1
  obtain ⟨R, hR⟩ : ∃ R : ByteArray, (⟨t.toArray⟩ : ByteArray) = R := ⟨_, rfl⟩
  obtain ⟨T, hT⟩ : ∃ T : ByteArray, (⟨(Wr.encList Wr.encText y).toArray⟩ : ByteArray) = T := ⟨_, rfl⟩
  have hRl : R.data.toList = t := by rw [← hR]
  have hTl : T.data.toList = Wr.encList Wr.encText y := by rw [← hT]
  have hsl : s.data.toList = T.data.toList ++ R.data.toList := by rw [hTl, hRl]; exact hst
  have hle : R.size ≤ s.size := by
    have h1 := congrArg List.length hsl
    rw [List.length_append, ← Lib.size_eq, ← Lib.size_eq, ← Lib.size_eq] at h1
    omega
  have hfr := front_eq hsl
  have hcmp : (T.toList == T.toList) = true := by simp
  have hll := Wr.list_len Wr.encText_pos hst
  rw [← Lib.size_eq] at hll
  obtain ⟨hl1, hl2⟩ := hll
  have HL1 : Hid (y.length ≤ 1000000) := by show _ ≤ _; omega
  have HL2 : Hid ((y.map Wr.encText).flatten.length ≤ 100000000) := by show _ ≤ _; omega
  clear hl1 hl2
  have HT := Lib.hid hT
  have HRR := Lib.hid hR
  have hR0 : (((R.size : Int) == 0) = true ∧ R.toList.isEmpty = true) ∨ ((R.size : Int) == 0) = false := by
    by_cases h : R.size = 0
    · left
      have h1 := Lib.size_eq R
      have h2 : R.data.toList = [] := List.eq_nil_of_length_eq_zero (by omega)
      exact ⟨by rw [h]; rfl, by rw [Lib.toList_data, h2]; rfl⟩
    · right
      simpa using h
  clear hE hk hx hst hT hR hRl hTl hsl
  rcases hR0 with ⟨hz1, hz2⟩ | hz1
  all_goals
    go_enter Tryd.func6, Tryd.ntmps6
    go_wp2_with fail
    refine (small_any W HE.out).mono ?_
    rintro x w1 ⟨rfl, hb⟩
    have HB1 := Lib.hid hb
    clear hb
    go_wp2_with fail
    refine (open_any _ _).mono ?_
    rintro x w2 ⟨rfl, hR, hb⟩
    have HR2 := Lib.hid hR
    have HB2 := Lib.hid (HB1.out.trans (hb.mono HB1.out.size))
    clear hR hb
    go_wp2_with fail
    refine (HK.out _).mono ?_
    rintro x w3 ⟨rfl, hb⟩
    have HR3 := Lib.hid (HR2.out.below hb)
    have HB3 := Lib.hid (HB2.out.trans (hb.mono HB2.out.size))
    clear hb
    have HQ := Lib.hid (texts_any w1.heap.size s false _ HR3.out (fun h => by cases h) (HE.out.new HB3.out) (Nat.le_trans HE.out.size HB1.out.size) (by omega))
    rw [HX.out] at HQ
    simp only [Wr.vOf, Wr.rOf, Wr.bOf] at HQ
    rw [HRR.out] at HQ
    go_wp2_with fail
    refine HQ.out.mono ?_
    rintro x w4 ⟨v, rfl, hrow, hR, hg⟩
    obtain ⟨xa, b, cap, rfl, hV, _⟩ := rowV_own hrow
    have HV := Lib.hid hV
    clear hV hrow
    have HR4 := Lib.hid hR
    have HB4 := Lib.hid (HB3.out.trans (Gr.below hg HB3.out.size HB1.out.size))
    have hE4 := HE.out.new HB4.out
    have HE4 := Lib.hid hE4
    have HZ4 := Lib.hid (show w1.heap.size < w4.heap.size from HR4.out.lt)
    have HW := Lib.hid (wtexts_any xa b 0 cap y _ HV.out HL1.out HL2.out HE4.out)
    rw [HT.out] at HW
    clear hR hg hE4
    go_wp2_with fail
    refine HW.out.mono ?_
    rintro x w5 ⟨rfl, hb⟩
    have HR5 := Lib.hid (HR4.out.below hb)
    have HB5 := Lib.hid (HB4.out.trans (hb.mono HB4.out.size))
    clear hb
    go_wp2_with fail
    refine (left_any _ _ _ _ HR5.out).mono ?_
    rintro x w' ⟨rfl, rfl⟩
    go_wp2_with fail
    first
    | (refine (done_any _ _ _ _ HR5.out).mono ?_
       rintro x w' ⟨rfl, rfl⟩
       go_wp2_with fail
       refine (left_any _ _ _ _ HR5.out).mono ?_
       rintro x w' ⟨rfl, rfl⟩)
    | (refine (left_any _ _ _ _ HR5.out).mono ?_
       rintro x w' ⟨rfl, rfl⟩)
    go_wp2
    go_ret
    exact ⟨rfl, HB5.out⟩

theorem again_any (s : ByteArray) (k : Int) (W : World) (hE : Env W) (hs : s.size ≤ 400) :
    Calls Tryd.prog 6 #[.string s, .int .i64 k] W fun e w' => e = .returned (.bool true) ∧ Below W.heap.size W w' := by
  have h5 : k % 5 = 0 ∨ k % 5 = 1 ∨ k % 5 = 2 ∨ k % 5 = 3 ∨ k % 5 = 4 := by omega
  rcases h5 with h | h | h | h | h
  · cases hx : Wr.takeNum 59 s.data.toList with
    | none => exact again_0_none s k W hE hs h hx
    | some p => exact again_0_some s k W hE hs h p.1 p.2 hx
  · cases hx : Wr.takeInt 59 s.data.toList with
    | none => exact again_1_none s k W hE hs h hx
    | some p => exact again_1_some s k W hE hs h p.1 p.2 hx
  · cases hx : Wr.takeText s.data.toList with
    | none => exact again_2_none s k W hE hs h hx
    | some p => exact again_2_some s k W hE hs h p.1 p.2 hx
  · cases hx : Wr.takeList (Wr.takeInt 59) s.data.toList with
    | none => exact again_3_none s k W hE hs h hx
    | some p => exact again_3_some s k W hE hs h p.1 p.2 hx
  · cases hx : Wr.takeList Wr.takeText s.data.toList with
    | none => exact again_4_none s k W hE hs h hx
    | some p => exact again_4_some s k W hE hs h p.1 p.2 hx

set_option maxHeartbeats 1000000 in
set_option maxRecDepth 100000 in
theorem again_long (s : ByteArray) (k : Int) (W : World) (hE : Env W) (hs : 400 < s.size) (hm : s.size ≤ 9223372036854775807) :
    Calls Tryd.prog 6 #[.string s, .int .i64 k] W fun e w' => e = .returned (.bool true) ∧ Below W.heap.size W w' := by
  have HE := Lib.hid hE
  clear hE
  go_enter Tryd.func6, Tryd.ntmps6
  go_wp2_with fail
  refine (small_any W HE.out).mono ?_
  rintro x w1 ⟨rfl, hb⟩
  go_wp2
  go_ret
  exact ⟨rfl, hb⟩

/-- The law WireAgain, walked. -/
theorem again_law (s : ByteArray) (k : Int) (W : World) (hE : Env W) (hm : s.size ≤ 9223372036854775807) :
    Calls Tryd.prog 6 #[.string s, .int .i64 k] W fun e w' => e = .returned (.bool true) ∧ Below W.heap.size W w' := by
  by_cases hs : s.size ≤ 400
  · exact again_any s k W hE hs
  · exact again_long s k W hE (by omega) hm
end Go.Proofs.YthknahghmlfegaaDoor
