/-
  missivelaw02.number and write; the reference's SameNums and SameTexts, on two equal lists.
-/
import Derived.Test.YthknahghmlfegaaDoorWVal
namespace Go.Proofs.YthknahghmlfegaaDoor
open Go Go.RowKit Go.Shelf

namespace Wr
def numb (n : Int) : Int := if n < 0 then -(n + 1) else n
theorem numb_i64 {n : Int} (h : i64 n) : i64 (numb n) ∧ 0 ≤ numb n := by
  obtain ⟨h1, h2⟩ := h
  unfold numb i64
  split <;> omega
/-- The encoding of a value. -/
def encV (x : Vl) : List UInt8 :=
  if x.K % 5 = 0 then encNum (numb x.N) else if x.K % 5 = 1 then encInt x.N else if x.K % 5 = 2 then encText x.S else if x.K % 5 = 3 then encList encInt x.L else encList encText x.T
theorem encV_0 {x : Vl} (h : x.K % 5 = 0) : encV x = encNum (numb x.N) := by unfold encV; rw [if_pos h]
theorem encV_1 {x : Vl} (h : x.K % 5 = 1) : encV x = encInt x.N := by unfold encV; rw [if_neg (by omega), if_pos h]
theorem encV_2 {x : Vl} (h : x.K % 5 = 2) : encV x = encText x.S := by unfold encV; rw [if_neg (by omega), if_neg (by omega), if_pos h]
theorem encV_3 {x : Vl} (h : x.K % 5 = 3) : encV x = encList encInt x.L := by unfold encV; rw [if_neg (by omega), if_neg (by omega), if_neg (by omega), if_pos h]
theorem encV_4 {x : Vl} (h : x.K % 5 = 4) : encV x = encList encText x.T := by unfold encV; rw [if_neg (by omega), if_neg (by omega), if_neg (by omega), if_neg (by omega)]
theorem encText_len {s : List UInt8} (h : s.length ≤ 400) : (encText s).length ≤ s.length + 22 := by
  have := itoa_len (i64_nat (show s.length ≤ 9223372036854775807 by omega))
  unfold encText; simp only [List.length_append, List.length_cons, List.length_nil]; omega
theorem texts_len : ∀ X : List (List UInt8), (∀ x ∈ X, x.length ≤ 400) → (X.map encText).flatten.length ≤ 422 * X.length
  | [], _ => by simp
  | x :: r, h => by
    have h1 := texts_len r (fun y hy => h y (by simp [hy]))
    have h2 := encText_len (h x (by simp))
    have h3 := h x (by simp)
    simp only [List.map_cons, List.flatten_cons, List.length_append, List.length_cons] at h1 ⊢
    omega
theorem encList_len {α : Type} {enc : α → List UInt8} (X : List α) (h : X.length ≤ 400) : (encList enc X).length ≤ 22 + (X.map enc).flatten.length := by
  have := itoa_len (i64_nat (show X.length ≤ 9223372036854775807 by omega))
  unfold encList; simp only [List.length_append, List.length_cons, List.length_nil]; omega
theorem encV_len {x : Vl} (hf : Fit x) (h : lowV x = true) : (encV x).length ≤ 170000 := by
  obtain ⟨h1, h2, h3, h4⟩ := lowV_parts h
  unfold encV
  split
  · unfold encNum encInt; have := itoa_len (numb_i64 hf.N).1; split <;> simp; omega
  · split
    · unfold encInt; have := itoa_len hf.N; simp; omega
    · split
      · have := encText_len h3; omega
      · split
        · have := encList_len (enc := encInt) x.L h1; have := ints_len x.L hf.ints; omega
        · have := encList_len (enc := encText) x.T h2; have := texts_len x.T h4; omega
end Wr

set_option maxHeartbeats 1000000 in
set_option maxRecDepth 100000 in
theorem numb_any (n : Int) (h : Wr.i64 n) (W : World) : Calls Tryd.prog 56 #[.int .i64 n] W fun e w' => e = .returned (.int .i64 (Wr.numb n)) ∧ W = w' := by
  obtain ⟨h1, h2⟩ := h
  by_cases h0 : n < 0
  · have e : Wr.numb n = -(n + 1) := by unfold Wr.numb; rw [if_pos h0]
    have HE := Lib.hid e
    clear e
    go_enter Tryd.func56, Tryd.ntmps56
    go_wp2
    go_ret
    exact ⟨ret_int (by rw [HE.out]), rfl⟩
  · have e : Wr.numb n = n := by unfold Wr.numb; rw [if_neg h0]
    have HE := Lib.hid e
    clear e
    go_enter Tryd.func56, Tryd.ntmps56
    go_wp2
    go_ret
    exact ⟨ret_int (by rw [HE.out]), rfl⟩

/-- A value as an argument. -/
def argV (x : Wr.Vl) (xa ya : Option Addr) (c c' : Nat) : Value := .agg #[.int .i64 x.K, .int .i64 x.N, encStr x.S, .slice xa x.L.length c, .slice ya x.T.length c']

set_option maxHeartbeats 2000000 in
set_option maxRecDepth 100000 in
theorem write_0 (x : Wr.Vl) (xa ya : Option Addr) (b off c b' off' c' : Nat) (W : World) (hE : Env W) (hf : FV W x xa ya b off b' off') (hlow : Wr.lowV x = true) (hk : x.K % 5 = 0) :
    Calls Tryd.prog 40 #[argV x xa ya c c'] W fun e w' => e = .returned (.string ⟨(Wr.encV x).toArray⟩) ∧ Below W.heap.size W w' := by
  rw [Wr.encV_0 hk]
  unfold argV
  obtain ⟨y, hy⟩ : ∃ y : ByteArray, encStr x.S = .string y := ⟨_, rfl⟩
  have hyl : y.data.toList = x.S := by
    have : (⟨x.S.toArray⟩ : ByteArray) = y := by injection hy
    rw [← this]
  rw [hy]
  have HK := Lib.hid (fun w => kind_any x.K x.N y xa ya x.L.length c x.T.length c' w)
  rw [hk] at HK
  have HE := Lib.hid hE
  have HF := Lib.hid hf
  have hp := Wr.lowV_parts hlow
  have HN := Lib.hid hf.fit.N
  clear hE hf hlow hk hy hyl hp
  go_enter Tryd.func40, Tryd.ntmps40
  go_wp2_with fail
  refine (HK.out _).mono ?_
  rintro e w1 ⟨rfl, hb⟩
  have hB1 : Below W.heap.size W w1 := ((Below.refl _ W).alloc (Nat.le_refl _) _).trans (hb.mono (by simp))
  have hc1 : w1.cell? ⟨W.heap.size, 1, none⟩ = some (.int .i64 x.N) := (hb.cell (p := ⟨W.heap.size, 1, none⟩) (by simp)).trans (by simp)
  have HB1 := Lib.hid hB1
  clear hb hB1
  go_wp2_with fail
  refine (numb_any x.N HN.out _).mono ?_
  rintro e w' ⟨rfl, rfl⟩
  go_wp2_with fail
  refine (wnum_any _ (Wr.numb_i64 HN.out).1 _ (HE.out.new HB1.out)).mono ?_
  rintro e w2 ⟨rfl, hb⟩
  go_wp2
  go_ret
  exact ⟨rfl, HB1.out.trans (hb.mono HB1.out.size)⟩

set_option maxHeartbeats 2000000 in
set_option maxRecDepth 100000 in
theorem write_1 (x : Wr.Vl) (xa ya : Option Addr) (b off c b' off' c' : Nat) (W : World) (hE : Env W) (hf : FV W x xa ya b off b' off') (hlow : Wr.lowV x = true) (hk : x.K % 5 = 1) :
    Calls Tryd.prog 40 #[argV x xa ya c c'] W fun e w' => e = .returned (.string ⟨(Wr.encV x).toArray⟩) ∧ Below W.heap.size W w' := by
  rw [Wr.encV_1 hk]
  unfold argV
  obtain ⟨y, hy⟩ : ∃ y : ByteArray, encStr x.S = .string y := ⟨_, rfl⟩
  have hyl : y.data.toList = x.S := by
    have : (⟨x.S.toArray⟩ : ByteArray) = y := by injection hy
    rw [← this]
  rw [hy]
  have HK := Lib.hid (fun w => kind_any x.K x.N y xa ya x.L.length c x.T.length c' w)
  rw [hk] at HK
  have HE := Lib.hid hE
  have HF := Lib.hid hf
  have hp := Wr.lowV_parts hlow
  have HN := Lib.hid hf.fit.N
  clear hE hf hlow hk hy hyl hp
  go_enter Tryd.func40, Tryd.ntmps40
  go_wp2_with fail
  refine (HK.out _).mono ?_
  rintro e w1 ⟨rfl, hb⟩
  have hB1 : Below W.heap.size W w1 := ((Below.refl _ W).alloc (Nat.le_refl _) _).trans (hb.mono (by simp))
  have hc1 : w1.cell? ⟨W.heap.size, 1, none⟩ = some (.int .i64 x.N) := (hb.cell (p := ⟨W.heap.size, 1, none⟩) (by simp)).trans (by simp)
  have HB1 := Lib.hid hB1
  clear hb hB1
  go_wp2_with fail

  refine (wint_any _ HN.out _ (HE.out.new HB1.out)).mono ?_
  rintro e w2 ⟨rfl, hb⟩
  go_wp2
  go_ret
  exact ⟨rfl, HB1.out.trans (hb.mono HB1.out.size)⟩

set_option maxHeartbeats 2000000 in
set_option maxRecDepth 100000 in
theorem write_2 (x : Wr.Vl) (xa ya : Option Addr) (b off c b' off' c' : Nat) (W : World) (hE : Env W) (hf : FV W x xa ya b off b' off') (hlow : Wr.lowV x = true) (hk : x.K % 5 = 2) :
    Calls Tryd.prog 40 #[argV x xa ya c c'] W fun e w' => e = .returned (.string ⟨(Wr.encV x).toArray⟩) ∧ Below W.heap.size W w' := by
  rw [Wr.encV_2 hk]
  unfold argV
  obtain ⟨y, hy⟩ : ∃ y : ByteArray, encStr x.S = .string y := ⟨_, rfl⟩
  have hyl : y.data.toList = x.S := by
    have : (⟨x.S.toArray⟩ : ByteArray) = y := by injection hy
    rw [← this]
  rw [hy]
  have HK := Lib.hid (fun w => kind_any x.K x.N y xa ya x.L.length c x.T.length c' w)
  rw [hk] at HK
  have HE := Lib.hid hE
  have HF := Lib.hid hf
  have hp := Wr.lowV_parts hlow
  have hys : y.size ≤ 100000000 := by rw [Lib.size_eq, hyl]; omega
  rw [← hyl]
  clear hE hf hlow hk hy hyl hp
  go_enter Tryd.func40, Tryd.ntmps40
  go_wp2_with fail
  refine (HK.out _).mono ?_
  rintro e w1 ⟨rfl, hb⟩
  have hB1 : Below W.heap.size W w1 := ((Below.refl _ W).alloc (Nat.le_refl _) _).trans (hb.mono (by simp))
  have hc2 : w1.cell? ⟨W.heap.size, 2, none⟩ = some (.string y) := (hb.cell (p := ⟨W.heap.size, 2, none⟩) (by simp)).trans (by simp)
  have HB1 := Lib.hid hB1
  clear hb hB1
  go_wp2_with fail

  refine (wtext_any y hys _ (HE.out.new HB1.out)).mono ?_
  rintro e w2 ⟨rfl, hb⟩
  go_wp2
  go_ret
  exact ⟨rfl, HB1.out.trans (hb.mono HB1.out.size)⟩

set_option maxHeartbeats 2000000 in
set_option maxRecDepth 100000 in
theorem write_3 (x : Wr.Vl) (xa ya : Option Addr) (b off c b' off' c' : Nat) (W : World) (hE : Env W) (hf : FV W x xa ya b off b' off') (hlow : Wr.lowV x = true) (hk : x.K % 5 = 3) :
    Calls Tryd.prog 40 #[argV x xa ya c c'] W fun e w' => e = .returned (.string ⟨(Wr.encV x).toArray⟩) ∧ Below W.heap.size W w' := by
  rw [Wr.encV_3 hk]
  unfold argV
  obtain ⟨y, hy⟩ : ∃ y : ByteArray, encStr x.S = .string y := ⟨_, rfl⟩
  have hyl : y.data.toList = x.S := by
    have : (⟨x.S.toArray⟩ : ByteArray) = y := by injection hy
    rw [← this]
  rw [hy]
  have HK := Lib.hid (fun w => kind_any x.K x.N y xa ya x.L.length c x.T.length c' w)
  rw [hk] at HK
  have HE := Lib.hid hE
  have HF := Lib.hid hf
  have hp := Wr.lowV_parts hlow
  have HL1 : Hid (x.L.length ≤ 1000000) := by show _ ≤ _; omega
  have HL2 : Hid ((x.L.map Wr.encInt).flatten.length ≤ 100000000) := by
    have := Wr.ints_len x.L hf.fit.ints
    show _ ≤ _; omega
  have HI := Lib.hid hf.fit.ints
  clear hE hf hlow hk hy hyl hp
  go_enter Tryd.func40, Tryd.ntmps40
  go_wp2_with fail
  refine (HK.out _).mono ?_
  rintro e w1 ⟨rfl, hb⟩
  have hB1 : Below W.heap.size W w1 := ((Below.refl _ W).alloc (Nat.le_refl _) _).trans (hb.mono (by simp))
  have hc3 : w1.cell? ⟨W.heap.size, 3, none⟩ = some (.slice xa x.L.length c) := (hb.cell (p := ⟨W.heap.size, 3, none⟩) (by simp)).trans (by simp)
  have HB1 := Lib.hid hB1
  clear hb hB1
  go_wp2_with fail

  refine (wnums_any xa b off c x.L _ (HF.out.L.below HB1.out) HL1.out HL2.out HI.out (HE.out.new HB1.out)).mono ?_
  rintro e w2 ⟨rfl, hb⟩
  go_wp2
  go_ret
  exact ⟨rfl, HB1.out.trans (hb.mono HB1.out.size)⟩

set_option maxHeartbeats 2000000 in
set_option maxRecDepth 100000 in
theorem write_4 (x : Wr.Vl) (xa ya : Option Addr) (b off c b' off' c' : Nat) (W : World) (hE : Env W) (hf : FV W x xa ya b off b' off') (hlow : Wr.lowV x = true) (hk : x.K % 5 = 4) :
    Calls Tryd.prog 40 #[argV x xa ya c c'] W fun e w' => e = .returned (.string ⟨(Wr.encV x).toArray⟩) ∧ Below W.heap.size W w' := by
  rw [Wr.encV_4 hk]
  unfold argV
  obtain ⟨y, hy⟩ : ∃ y : ByteArray, encStr x.S = .string y := ⟨_, rfl⟩
  have hyl : y.data.toList = x.S := by
    have : (⟨x.S.toArray⟩ : ByteArray) = y := by injection hy
    rw [← this]
  rw [hy]
  have HK := Lib.hid (fun w => kind_any x.K x.N y xa ya x.L.length c x.T.length c' w)
  rw [hk] at HK
  have HE := Lib.hid hE
  have HF := Lib.hid hf
  have hp := Wr.lowV_parts hlow
  have HL1 : Hid (x.T.length ≤ 1000000) := by show _ ≤ _; omega
  have HL2 : Hid ((x.T.map Wr.encText).flatten.length ≤ 100000000) := by
    have := Wr.texts_len x.T hp.2.2.2
    show _ ≤ _; omega
  clear hE hf hlow hk hy hyl hp
  go_enter Tryd.func40, Tryd.ntmps40
  go_wp2_with fail
  refine (HK.out _).mono ?_
  rintro e w1 ⟨rfl, hb⟩
  have hB1 : Below W.heap.size W w1 := ((Below.refl _ W).alloc (Nat.le_refl _) _).trans (hb.mono (by simp))
  have hc4 : w1.cell? ⟨W.heap.size, 4, none⟩ = some (.slice ya x.T.length c') := (hb.cell (p := ⟨W.heap.size, 4, none⟩) (by simp)).trans (by simp)
  have HB1 := Lib.hid hB1
  clear hb hB1
  go_wp2_with fail

  refine (wtexts_any ya b' off' c' x.T _ (HF.out.T.below HB1.out) HL1.out HL2.out (HE.out.new HB1.out)).mono ?_
  rintro e w2 ⟨rfl, hb⟩
  go_wp2
  go_ret
  exact ⟨rfl, HB1.out.trans (hb.mono HB1.out.size)⟩

theorem write_any (x : Wr.Vl) (xa ya : Option Addr) (b off c b' off' c' : Nat) (W : World) (hE : Env W) (hf : FV W x xa ya b off b' off') (hlow : Wr.lowV x = true) :
    Calls Tryd.prog 40 #[argV x xa ya c c'] W fun e w' => e = .returned (.string ⟨(Wr.encV x).toArray⟩) ∧ Below W.heap.size W w' := by
  have h5 : x.K % 5 = 0 ∨ x.K % 5 = 1 ∨ x.K % 5 = 2 ∨ x.K % 5 = 3 ∨ x.K % 5 = 4 := by omega
  rcases h5 with h | h | h | h | h
  · exact write_0 x xa ya b off c b' off' c' W hE hf hlow h
  · exact write_1 x xa ya b off c b' off' c' W hE hf hlow h
  · exact write_2 x xa ya b off c b' off' c' W hE hf hlow h
  · exact write_3 x xa ya b off c b' off' c' W hE hf hlow h
  · exact write_4 x xa ya b off c b' off' c' W hE hf hlow h

set_option maxHeartbeats 1000000 in
set_option maxRecDepth 100000 in
theorem sameNums_any (xa ya : Option Addr) (b off c b' off' c' : Nat) (X : List Int) (W : World) (hl : X.length ≤ 9223372036854775807) (hx : RowV W xa b off (X.map (Value.int .i64))) (hy : RowV W ya b' off' (X.map (Value.int .i64))) :
    Calls Tryd.prog 30 #[.slice xa X.length c, .slice ya X.length c'] W fun e w' => e = .returned (.bool true) ∧ ∃ n, w' = W.drewN n := by
  have HX := Lib.hid hx
  have HY := Lib.hid hy
  clear hx hy
  go_enter Tryd.func30, Tryd.ntmps30
  go_wp2
  go_loopw [5] (fun i wr => ∃ k : Nat, i = .int .i64 k ∧ k ≤ X.length ∧ Hid (∃ n, wr = W.drewN n)) (fun i _ => X.length - (intOf i).toNat)
  case atStart => exact ⟨0, rfl, Nat.zero_le _, ⟨0, rfl⟩⟩
  case round =>
    obtain ⟨k, rfl, hk, hwr⟩ := hrel
    by_cases hlt : k < X.length
    · obtain rfl := HX.out.at_ (by rw [List.length_map]; omega)
      obtain rfl := HY.out.at_ (by rw [List.length_map]; omega)
      have hg : (X.map (Value.int .i64))[k]? = some ((Value.int .i64) X[k]) := by rw [List.getElem?_map, List.getElem?_eq_getElem hlt]; rfl
      have c1 : wr.cell? ⟨b, off + k, none⟩ = some ((Value.int .i64) X[k]) := by obtain ⟨n, rfl⟩ := hwr; exact HX.out.cell k _ hg
      have c2 : wr.cell? ⟨b', off' + k, none⟩ = some ((Value.int .i64) X[k]) := by obtain ⟨n, rfl⟩ := hwr; exact HY.out.cell k _ hg
      obtain ⟨s, hs⟩ : ∃ s, (Value.int .i64) X[k] = .int .i64 s := ⟨_, rfl⟩
      rw [hs] at c1 c2
      clear hs hg
      have hne : (s != s) = false := by simp
      go_wp2
      go_quiet (fail)
      go_wp2
      go_roundw
      case rel => exact ⟨k + 1, by go_num, by omega, drews_more hwr.out _⟩
      case measure => simp [intOf]; omega
    · go_wp2
      go_ret
      exact ⟨rfl, hwr.out⟩

set_option maxHeartbeats 1000000 in
set_option maxRecDepth 100000 in
theorem sameTexts_any (xa ya : Option Addr) (b off c b' off' c' : Nat) (X : List (List UInt8)) (W : World) (hl : X.length ≤ 9223372036854775807) (hx : RowV W xa b off (X.map encStr)) (hy : RowV W ya b' off' (X.map encStr)) :
    Calls Tryd.prog 33 #[.slice xa X.length c, .slice ya X.length c'] W fun e w' => e = .returned (.bool true) ∧ ∃ n, w' = W.drewN n := by
  have HX := Lib.hid hx
  have HY := Lib.hid hy
  clear hx hy
  go_enter Tryd.func33, Tryd.ntmps33
  go_wp2
  go_loopw [5] (fun i wr => ∃ k : Nat, i = .int .i64 k ∧ k ≤ X.length ∧ Hid (∃ n, wr = W.drewN n)) (fun i _ => X.length - (intOf i).toNat)
  case atStart => exact ⟨0, rfl, Nat.zero_le _, ⟨0, rfl⟩⟩
  case round =>
    obtain ⟨k, rfl, hk, hwr⟩ := hrel
    by_cases hlt : k < X.length
    · obtain rfl := HX.out.at_ (by rw [List.length_map]; omega)
      obtain rfl := HY.out.at_ (by rw [List.length_map]; omega)
      have hg : (X.map encStr)[k]? = some (encStr X[k]) := by rw [List.getElem?_map, List.getElem?_eq_getElem hlt]; rfl
      have c1 : wr.cell? ⟨b, off + k, none⟩ = some (encStr X[k]) := by obtain ⟨n, rfl⟩ := hwr; exact HX.out.cell k _ hg
      have c2 : wr.cell? ⟨b', off' + k, none⟩ = some (encStr X[k]) := by obtain ⟨n, rfl⟩ := hwr; exact HY.out.cell k _ hg
      obtain ⟨s, hs⟩ : ∃ s, encStr X[k] = .string s := ⟨_, rfl⟩
      rw [hs] at c1 c2
      clear hs hg
      have hne : (s.toList != s.toList) = false := by simp
      go_wp2
      go_quiet (fail)
      go_wp2
      go_roundw
      case rel => exact ⟨k + 1, by go_num, by omega, drews_more hwr.out _⟩
      case measure => simp [intOf]; omega
    · go_wp2
      go_ret
      exact ⟨rfl, hwr.out⟩
end Go.Proofs.YthknahghmlfegaaDoor
