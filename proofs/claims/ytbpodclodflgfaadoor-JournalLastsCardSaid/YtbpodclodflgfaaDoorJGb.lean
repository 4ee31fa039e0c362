/-
  The forms of rows: formsOf.
  firstRow: the row whose form stands first.
  parse: the rows of a file.
  slices.Clone of strings.
-/
import Derived.Test.YtbpodclodflgfaaDoorJGa
namespace Go.Proofs.YtbpodclodflgfaaDoor
open Go Go.RowKit
namespace Jn
def crc (r : B) : Int := ((Dg.crc r).toNat : Int)
/-- The form of a row. -/
def form (r : B) : B := num (r.length : Int) ++ num (crc r) ++ r
def forms (l : List B) : B := l.flatMap form
/-- The header. -/
def header (l : List B) : B := num (16 + ((forms l).length : Int)) ++ num (l.length : Int)
theorem form_length (r : B) : (form r).length = 16 + r.length := by
  unfold form
  simp only [List.length_append, num_length]
theorem forms_append (l m : List B) : forms (l ++ m) = forms l ++ forms m := by simp [forms]
theorem forms_one (r : B) : forms [r] = form r := by simp [forms]
theorem forms_take (l : List B) (k : Nat) (h : k < l.length) : forms (l.take (k + 1)) = forms (l.take k) ++ form (l.getD k []) := by
  rw [List.take_add_one, List.getElem?_eq_getElem h, forms_append]
  simp [forms, h]
theorem forms_take_le (l : List B) (k : Nat) : (forms (l.take k)).length ≤ (forms l).length := by
  have : forms l = forms (l.take k) ++ forms (l.drop k) := by rw [← forms_append, List.take_append_drop]
  rw [this, List.length_append]
  omega
theorem row_le (l : List B) (k : Nat) (h : k < l.length) : (forms (l.take k)).length + 16 + (l.getD k []).length ≤ (forms l).length := by
  have h1 := forms_take_le l (k + 1)
  rw [forms_take l k h, List.length_append, form_length] at h1
  omega
theorem forms_count (l : List B) : 16 * l.length ≤ (forms l).length := by
  induction l with
  | nil => simp
  | cons r l ih =>
    have : forms (r :: l) = form r ++ forms l := rfl
    rw [this, List.length_append, form_length, List.length_cons]
    omega
theorem header_length (l : List B) : (header l).length = 16 := by
  unfold header
  rw [List.length_append, num_length, num_length]
end Jn
theorem byteCells_append (a b : List UInt8) : Lib.byteCells a ++ Lib.byteCells b = Lib.byteCells (a ++ b) := by simp [Lib.byteCells]
theorem byteCells_length (a : List UInt8) : (Lib.byteCells a).length = a.length := by simp [Lib.byteCells]
theorem enc_list (l : List UInt8) : (enc l).data.toList = l := rfl
/-- A builder abides new blocks. -/
theorem builder_below {T e : TypeId} {B b : Nat} {bs : List Value} {W W' : World} (h : Lib.IsBuilderF T e B b bs W) (hg : Below W.heap.size W W') : Lib.IsBuilderF T e B b bs W' := by
  have keep : ∀ (k : Nat) (c : Array Value) (t : TypeId) (fz : Nat × Nat), W.heap[k]? = some (.cells c t fz) → W'.heap[k]? = some (.cells c t fz) := fun k c t fz hk => (hg.block k (Array.getElem?_eq_some_iff.1 hk).1).trans hk
  have step : ∀ p, Lib.BuilderAtF T e B b p bs W → Lib.BuilderAtF T e B b p bs W' := by
    rintro p ⟨hB, v, hv, ⟨hl, hrow⟩, hne⟩
    refine ⟨hB, v, keep _ _ _ _ hv, ⟨hl, ?_⟩, hne⟩
    rcases hrow with h | ⟨g, cap, cur, fz, h1, h2, h3, h4⟩
    · exact .inl h
    · exact .inr ⟨g, cap, cur, fz, h1, h2, keep _ _ _ _ h3, h4⟩
  exact h.elim (fun h => .inl (step _ h)) (fun h => .inr (step _ h))
/-- What the builder holds between two rows. -/
structure FmI (w : World) (l : List UInt8) (W : World) : Prop where
  b : Lib.IsBuilderF 105 5 w.heap.size w.heap.size (Lib.byteCells l) W
  up : Below w.heap.size w W
theorem below_to {B : Nat} {a w w' : World} (h : Below B a w) (hB : B ≤ a.heap.size) (k : Below w.heap.size w w') : Below B a w' := h.trans (k.mono (Nat.le_trans hB h.size))
theorem fm_quiet {w w1 w2 : World} {l : List UInt8} (h : FmI w l w1) (hb : Below w1.heap.size w1 w2) : FmI w l w2 :=
  ⟨builder_below h.b hb, below_to h.up (Nat.le_refl _) hb⟩
theorem fm_writeR {w w1 : World} {l : List UInt8} (h : FmI w l w1) (s : ByteArray) (hl : l.length + s.size ≤ 100000000) :
    Calls Tryd.prog 83 #[.pointer (some ⟨w.heap.size, 0, none⟩), .string s] w1 fun e w' => (∃ v, e = .returned v) ∧ FmI w (l ++ s.data.toList) w' :=
  (writeString_any w.heap.size w.heap.size (Lib.byteCells l) s w1 h.b (by rw [byteCells_length]; omega) h.up.size).mono fun _ _ ⟨h1, h2, h3⟩ => ⟨⟨_, h1⟩, by rw [byteCells_append] at h2; exact h2, h.up.trans h3⟩
theorem fm_write {w w1 : World} {l : List UInt8} (h : FmI w l w1) (m : List UInt8) (hl : l.length + m.length ≤ 100000000) :
    Calls Tryd.prog 83 #[.pointer (some ⟨w.heap.size, 0, none⟩), .string (enc m)] w1 fun e w' => (∃ v, e = .returned v) ∧ FmI w (l ++ m) w' :=
  fm_writeR h (enc m) (by rw [Lib.size_eq]; exact hl)
set_option maxHeartbeats 4000000 in
set_option maxRecDepth 100000 in
theorem formsOf_any (X : List (List UInt8)) (n : Nat) (hn : X.length = n) (hS : (Jn.forms X).length ≤ 100000000) (xa : Option Addr) (b off cap : Nat) (w : World) (hL : Lv w xa b off cap X) (hE : EnvJ w) :
    Calls Tryd.prog 51 #[.slice xa n cap] w fun e w' => e = .returned (.string (enc (Jn.forms X))) ∧ Below w.heap.size w w' := by
  have HL := Lib.hid hL
  have HE := Lib.hid hE
  have HN := Lib.hid hn
  have HS := Lib.hid hS
  have hnb : n ≤ 100000000 := by have := Jn.forms_count X; omega
  have hfr : RowKit.Hid (FmI w [] (w.alloc (.cells #[.pointer none, .slice none 0 0] 105))) := Lib.hid ⟨Lib.IsBuilderF.of (Lib.fresh_isBuilder 105 5 w), below_new w _⟩
  clear hL hE hn hS
  go_enter Tryd.func51, Tryd.ntmps51
  go_wp2
  go_loopw [5, 8] (fun x5 x8 wr => ∃ k : Nat, x8 = .int .i64 k ∧ k ≤ n ∧ Hid (FmI w (Jn.forms (X.take k)) wr)) (fun _ x8 _ => n - (intOf x8).toNat)
  case atStart => exact ⟨0, rfl, Nat.zero_le _, hfr.out⟩
  case round =>
    obtain ⟨k, rfl, hk, hI⟩ := hrel
    by_cases hlt : k < n
    · have hkl : k < X.length := by rw [HN.out]; exact hlt
      obtain rfl := HL.out.at_ (by omega)
      have hc0 := (HL.out.below hI.out.up).cell k hkl
      have hrow := Jn.row_le X k hkl
      have HT := Lib.hid (Jn.forms_take X k hkl)
      obtain ⟨r, hr⟩ : ∃ r, X.getD k [] = r := ⟨_, rfl⟩
      rw [hr] at hc0 hrow HT
      obtain ⟨R, hR⟩ : ∃ R, enc r = R := ⟨_, rfl⟩
      have hRr : R.data.toList = r := by rw [← hR]; rfl
      have hRs : R.size = r.length := by rw [Lib.size_eq, hRr]
      replace hc0 : wr.cell? ⟨b, off + k, none⟩ = some (.string R) := by rw [hc0, ← hR]; rfl
      obtain ⟨l, hl⟩ : ∃ l, Jn.forms (X.take k) = l := ⟨_, rfl⟩
      rw [hl] at hrow HT hI
      have hRb : R.size ≤ 100000000 := by have := HS.out; omega
      have hlb : l.length + 16 + R.size ≤ 100000000 := by have := HS.out; omega
      have HLB := Lib.hid hlb
      have hcn := (Dg.crc R.data.toList).isLt
      have CC := Lib.hid (fun (w1 : World) (hb : Below w.heap.size w w1) => crc_any R hRb w1 (HE.out.below hb))
      obtain ⟨cc, hcc⟩ : ∃ cc : Int, ((Dg.crc R.data.toList).toNat : Int) = cc := ⟨_, rfl⟩
      rw [hcc] at CC
      have HF := Lib.hid (show Jn.form r = Jn.num (R.size : Int) ++ Jn.num cc ++ R.data.toList by unfold Jn.form Jn.crc; rw [hRs, ← hcc, hRr])
      rw [HF.out] at HT
      have CF1 := Lib.hid (fun w1 : World => formOf_any (R.size : Int) w1)
      have CF2 := Lib.hid (fun w1 : World => formOf_any cc w1)
      have HN1 := Lib.hid (Jn.num_length (R.size : Int))
      have HN2 := Lib.hid (Jn.num_length cc)
      obtain ⟨m1, hm1⟩ : ∃ m1, Jn.num (R.size : Int) = m1 := ⟨_, rfl⟩
      obtain ⟨m2, hm2⟩ : ∃ m2, Jn.num cc = m2 := ⟨_, rfl⟩
      rw [hm1] at CF1 HN1 HT
      rw [hm2] at CF2 HN2 HT
      have W1 := Lib.hid (fun (w1 : World) (h : FmI w l w1) => fm_write h m1 (by have := HLB.out; have := HN1.out; omega))
      have W2 := Lib.hid (fun (w1 : World) (h : FmI w (l ++ m1) w1) => fm_write h m2 (by rw [List.length_append]; have := HLB.out; have := HN1.out; have := HN2.out; omega))
      have W3 := Lib.hid (fun (w1 : World) (h : FmI w (l ++ m1 ++ m2) w1) => fm_writeR h R (by rw [List.length_append, List.length_append]; have := HLB.out; have := HN1.out; have := HN2.out; omega))
      clear hr hR hRr hRs hl hrow hcn hcc hm1 hm2
      go_wp2_with (first
        | (go_at_call 83; with_reducible refine (W3.out _ H6.out).mono ?_; rintro _ w7 ⟨⟨v9, rfl⟩, hI7⟩; have H7 := Lib.hid hI7; clear hI7)
        | (go_at_call 84; with_reducible refine (CF2.out _).mono ?_; rintro _ w5 ⟨rfl, hb5⟩; have H5 := Lib.hid (fm_quiet H3.out hb5); clear hb5)
        | (go_at_call 83; with_reducible refine (W2.out _ H5.out).mono ?_; rintro _ w6 ⟨⟨v9, rfl⟩, hI6⟩; have H6 := Lib.hid hI6; clear hI6)
        | (go_at_call 85; with_reducible refine (CC.out _ H3.out.up).mono ?_; rintro _ w4 ⟨rfl, rfl⟩)
        | (go_at_call 83; with_reducible refine (W1.out _ H2.out).mono ?_; rintro _ w3 ⟨⟨v9, rfl⟩, hI3⟩; have H3 := Lib.hid hI3; clear hI3)
        | (go_at_call 84; with_reducible refine (CF1.out _).mono ?_; rintro _ w2 ⟨rfl, hb2⟩; have H2 := Lib.hid (fm_quiet hI.out hb2); clear hb2))
      go_roundw
      case rel => exact ⟨k + 1, by go_num, by omega, by rw [HT.out]; have h := H7.out; simp only [List.append_assoc] at h ⊢; exact h⟩
      case measure => simp [intOf]; omega
    · obtain rfl : k = n := by omega
      have hI2 : RowKit.Hid (FmI w (Jn.forms X) wr) := Lib.hid (by have h := hI.out; rw [List.take_of_length_le (by rw [HN.out]; exact Nat.le_refl _)] at h; exact h)
      have C9 := Lib.hid (string_any w.heap.size w.heap.size (Jn.forms X) wr hI2.out.b hI2.out.up.size)
      have HB9 := Lib.hid hI2.out.up
      clear hI hI2
      go_wp2_with (go_at_call 86; with_reducible refine C9.out.mono ?_; rintro _ w9 ⟨rfl, hb9⟩; have HB := Lib.hid (HB9.out.trans hb9); clear hb9)
      go_ret
      exact ⟨rfl, HB.out⟩
end Go.Proofs.YtbpodclodflgfaaDoor
namespace Go.Proofs.YtbpodclodflgfaaDoor
open Go Go.RowKit
namespace Jn
def firstRow (s : B) : Option B :=
  if s.length < 16 then none
  else if val s < 0 ∨ ((s.drop 16).length : Int) < val s then none
  else if val (s.drop 8) = crc ((s.drop 16).take (val s).toNat) then some ((s.drop 16).take (val s).toNat) else none
end Jn
theorem ext_end (r : ByteArray) (k : Nat) : (r.extract k r.size).data.toList = r.data.toList.drop k := Lib.extract_to_end r k
theorem ext_size (r : ByteArray) (k : Nat) : (r.extract k r.size).size = r.size - k := by
  rw [Lib.size_eq, ext_end, List.length_drop, Lib.size_eq]
def firstV : Option (List UInt8) → Value
  | none => .tuple #[.string ⟨#[]⟩, .bool false]
  | some r => .tuple #[.string (enc r), .bool true]
theorem ba_ext {a b : ByteArray} (h : a.data.toList = b.data.toList) : a = b := by
  cases a; cases b
  simp at h
  simp [h]
theorem quiet_same {f : FuncId} {args : Array Value} {w : World} {v : Value} {k : Nat} (h : Calls Tryd.prog f args (w.drewN k) fun e w' => e = .returned v ∧ w.drewN k = w') :
    Calls Tryd.prog f args (w.drewN k) fun e w'' => e = .returned v ∧ ∃ m, w'' = w.drewN m := h.mono fun _ _ ⟨a, b⟩ => ⟨a, k, b.symm⟩
set_option maxHeartbeats 4000000 in
set_option maxRecDepth 100000 in
theorem firstRow_any (s : ByteArray) (hs : s.size ≤ 100000000) (w : World) (hE : EnvJ w) :
    Calls Tryd.prog 76 #[.string s] w fun e w' => e = .returned (firstV (Jn.firstRow s.data.toList)) ∧ ∃ n, w' = w.drewN n := by
  have hz := Lib.size_eq s
  have HE := Lib.hid hE
  clear hE
  unfold Jn.firstRow
  by_cases h16 : s.size < 16
  · rw [if_pos (by omega)]
    clear hz
    go_enter Tryd.func76, Tryd.ntmps76
    go_wp2
    go_ret2
    exact ⟨rfl, 0, rfl⟩
  · rw [if_neg (by omega)]
    have C1 := Lib.hid (fun w1 : World => numberIn_any s (by omega) w1)
    have C2 := Lib.hid (fun w1 : World => numberIn_any (s.extract 8 s.size) (by rw [ext_size]; omega) w1)
    have e16 := ext_end s 16
    have z16 := ext_size s 16
    obtain ⟨T, hT⟩ : ∃ T, s.extract 16 s.size = T := ⟨_, rfl⟩
    rw [ext_end] at C2
    rw [hT] at e16 z16
    rw [← e16]
    have hTl : T.data.toList.length = T.size := (Lib.size_eq T).symm
    rw [hTl]
    obtain ⟨n, hn⟩ : ∃ n, Jn.val s.data.toList = n := ⟨_, rfl⟩
    obtain ⟨c, hc⟩ : ∃ c, Jn.val (s.data.toList.drop 8) = c := ⟨_, rfl⟩
    rw [hn] at C1 ⊢
    rw [hc] at C2 ⊢
    have hTs : T.size ≤ 100000000 := by omega
    clear hn hc e16 hTl hz z16
    have Q1 := Lib.hid (fun k : Nat => quiet_same (C1.out (w.drewN k)))
    have Q2 := Lib.hid (fun k : Nat => quiet_same (C2.out (w.drewN k)))
    clear C1 C2
    by_cases h1 : n < 0
    · rw [if_pos (.inl h1)]
      have e1 : decide (n < 0) = true := by simpa using h1
      go_enter Tryd.func76, Tryd.ntmps76
      go_wp2
      go_quiet (first | (go_at_call 75; with_reducible exact Q1.out _) | (go_at_call 75; with_reducible exact Q2.out _))
      go_wp2
      go_ret2
      exact ⟨rfl, _, rfl⟩
    · have e1 : decide (n < 0) = false := by simpa using h1
      by_cases h2 : (T.size : Int) < n
      · rw [if_pos (.inr h2)]
        have e2 : decide ((T.size : Int) < n) = true := by simpa using h2
        go_enter Tryd.func76, Tryd.ntmps76
        go_wp2
        go_quiet (first | (go_at_call 75; with_reducible exact Q1.out _) | (go_at_call 75; with_reducible exact Q2.out _))
        go_wp2
        go_ret2
        exact ⟨rfl, _, rfl⟩
      · have e2 : decide ((T.size : Int) < n) = false := by simpa using h2
        rw [if_neg (by omega)]
        obtain ⟨m, rfl⟩ : ∃ m : Nat, n = (m : Int) := ⟨n.toNat, by omega⟩
        have hm : m ≤ T.size := by omega
        rw [show ((m : Int)).toNat = m by omega]
        have hX : (T.extract 0 m).data.toList = T.data.toList.take m := ext_take T m
        have hXs : (T.extract 0 m).size ≤ 100000000 := by rw [Lib.size_eq, hX, List.length_take, ← Lib.size_eq]; omega
        rw [← hX]
        have CC := Lib.hid (fun w1 (h : EnvJ w1) => crc_any (T.extract 0 m) hXs w1 h)
        have hXe : enc (T.extract 0 m).data.toList = T.extract 0 m := ba_ext rfl
        obtain ⟨d, hd⟩ : ∃ d, Jn.crc (T.extract 0 m).data.toList = d := ⟨_, rfl⟩
        have hd2 : ((Dg.crc (T.extract 0 m).data.toList).toNat : Int) = d := hd
        rw [hd2] at CC
        have HQE := Lib.hid (fun k : Nat => HE.out.below (w' := w.drewN k) (below_drewN (Below.refl _ _) k))
        by_cases h3 : c = d
        · rw [hd, if_pos h3]
          show Calls _ _ _ _ fun e w' => e = .returned (.tuple #[.string (enc (T.extract 0 m).data.toList), .bool true]) ∧ _
          rw [hXe]
          have e3 : (c != d) = false := by simpa using h3
          clear h3 hd hd2 hX hXe hXs
          go_enter Tryd.func76, Tryd.ntmps76
          go_wp2
          go_quiet (first | (go_at_call 75; with_reducible exact Q1.out _) | (go_at_call 75; with_reducible exact Q2.out _))
          go_wp2_with (go_at_call 85; with_reducible refine (CC.out _ (HQE.out _)).mono ?_; rintro _ w4 ⟨rfl, rfl⟩)
          go_ret2
          exact ⟨rfl, _, rfl⟩
        · rw [hd, if_neg h3]
          have e3 : (c != d) = true := by simpa using h3
          clear hd hd2 hX hXe hXs
          go_enter Tryd.func76, Tryd.ntmps76
          go_wp2
          go_quiet (first | (go_at_call 75; with_reducible exact Q1.out _) | (go_at_call 75; with_reducible exact Q2.out _))
          go_wp2_with (go_at_call 85; with_reducible refine (CC.out _ (HQE.out _)).mono ?_; rintro _ w4 ⟨rfl, rfl⟩)
          go_ret2
          exact ⟨rfl, _, rfl⟩
end Go.Proofs.YtbpodclodflgfaaDoor
namespace Go.Proofs.YtbpodclodflgfaaDoor
open Go Go.RowKit
namespace Jn
def rowsOf : Nat → B → Option (List B)
  | _, [] => some []
  | 0, _ => none
  | k + 1, s => match firstRow s with
    | none => none
    | some r => (rowsOf k (s.drop (16 + r.length))).map (r :: ·)
theorem rowsOf_nil (k : Nat) : rowsOf k [] = some [] := by cases k <;> rfl
theorem rowsOf_more : ∀ (k m : Nat) (s : B), s.length ≤ k → s.length ≤ m → rowsOf k s = rowsOf m s
  | k, m, [], _, _ => by rw [rowsOf_nil, rowsOf_nil]
  | 0, _, _ :: _, h, _ => by simp at h
  | _, 0, _ :: _, _, h => by simp at h
  | k + 1, m + 1, c :: t, h, h2 => by
    unfold rowsOf
    cases firstRow (c :: t) with
    | none => rfl
    | some r =>
      dsimp only
      rw [rowsOf_more k m _ (by rw [List.length_drop]; omega) (by rw [List.length_drop]; omega)]
/-- The rows whose forms stand one behind the other. -/
def rowsAll (s : B) : Option (List B) := rowsOf s.length s
theorem rowsAll_nil : rowsAll [] = some [] := rfl
theorem rowsAll_none {s : B} (hs : s ≠ []) (h : firstRow s = none) : rowsAll s = none := by
  cases s with
  | nil => exact absurd rfl hs
  | cons c t =>
    unfold rowsAll
    rw [List.length_cons]
    unfold rowsOf
    rw [h]
theorem rowsAll_some {s r : B} (hs : s ≠ []) (h : firstRow s = some r) : rowsAll s = (rowsAll (s.drop (16 + r.length))).map (r :: ·) := by
  cases s with
  | nil => exact absurd rfl hs
  | cons c t =>
    unfold rowsAll
    rw [List.length_cons]
    conv => lhs; unfold rowsOf
    rw [h]
    dsimp only
    rw [rowsOf_more t.length _ _ (by rw [List.length_drop, List.length_cons]; omega) (Nat.le_refl _)]
theorem firstRow_le {s r : B} (h : firstRow s = some r) : 16 + r.length ≤ s.length := by
  unfold firstRow at h
  split at h
  · cases h
  · split at h
    · cases h
    · split at h
      · injection h with h
        rw [← h, List.length_take, List.length_drop]
        omega
      · cases h
def fin (cv : Int) (en : Nat) : Option (List B) → Option (List B × Nat)
  | none => none
  | some l => if cv = (l.length : Int) then some (l, en) else none
def parse (s : B) : Option (List B × Nat) :=
  if s.length < 16 ∨ val s = 0 then some ([], 16)
  else if val s < 16 ∨ (s.length : Int) < val s then none
  else fin (val (s.drop 8)) (val s).toNat (rowsAll ((s.take (val s).toNat).drop 16))
/-- What is left to parse, behind the rows that were found. -/
theorem parse_step {s r : B} {L : List B} {at_ e : Nat} {W : Option (List B)} (h : (rowsAll ((s.take e).drop at_)).map (L ++ ·) = W) (hlt : at_ < e) (he : e ≤ s.length) (hr : firstRow ((s.take e).drop at_) = some r) :
    (rowsAll ((s.take e).drop (at_ + (16 + r.length)))).map ((L ++ [r]) ++ ·) = W ∧ at_ + (16 + r.length) ≤ e := by
  have hne : (s.take e).drop at_ ≠ [] := by
    intro hn
    have := congrArg List.length hn
    rw [List.length_drop, List.length_take] at this
    simp at this
    omega
  have hle := firstRow_le hr
  rw [List.length_drop, List.length_take] at hle
  rw [rowsAll_some hne hr, List.drop_drop, Option.map_map] at h
  refine ⟨?_, by omega⟩
  rw [← h]
  congr 1
  funext x
  simp
theorem parse_stop {s : B} {L : List B} {at_ e : Nat} {W : Option (List B)} (h : (rowsAll ((s.take e).drop at_)).map (L ++ ·) = W) (hlt : at_ < e) (he : e ≤ s.length) (hr : firstRow ((s.take e).drop at_) = none) : W = none := by
  have hne : (s.take e).drop at_ ≠ [] := by
    intro hn
    have := congrArg List.length hn
    rw [List.length_drop, List.length_take] at this
    simp at this
    omega
  rw [← h, rowsAll_none hne hr]
  rfl
theorem parse_end {s : B} {L : List B} {at_ e : Nat} {W : Option (List B)} (h : (rowsAll ((s.take e).drop at_)).map (L ++ ·) = W) (hle : e ≤ at_) : W = some L := by
  rw [← h, List.drop_eq_nil_of_le (by rw [List.length_take]; omega), rowsAll_nil]
  simp
end Jn
theorem ext_mid (s : ByteArray) (a b : Nat) : (s.extract a b).data.toList = (s.data.toList.take b).drop a := by
  rw [ByteArray.data_extract, Array.toList_extract, List.extract_eq_take_drop, List.drop_take]
theorem below_grown {B : Nat} {w wr w1 : World} {r : Option Nat} (h : Below B w wr) (hB : B ≤ w.heap.size) (hg : wr.grownBy w1 r) (hr : ∀ b, r = some b → B ≤ b) : Below B w w1 :=
  ⟨hg.os.trans h.os, hg.tape.trans h.tape, hg.output.trans h.output, Nat.le_trans h.size hg.size, fun i hi => (hg.block i (Nat.lt_of_lt_of_le (Nat.lt_of_lt_of_le hi hB) h.size) (fun e => by have := hr i e.symm; omega)).trans (h.block i hi)⟩
theorem own_from {w : World} {base : Nat} {e : TypeId} {sz : Nat} {v : Value} {n : Nat} {xs : List Value} (h : w.ownsRow base e sz v n xs) : ∀ b, v.ownBlock = some b → base ≤ b := fun b hb => by
  obtain ⟨_, ⟨rfl, _⟩ | ⟨g, cap, cur, rfl, h2, _⟩⟩ := h
  · cases hb
  · injection hb with hb
    subst hb
    exact h2
/-- rows = append(rows, row). -/
theorem wpList_app_row1 {w w0 : World} {ops : Array Oper} {o : Oper} {a : Act} {Q : Exit → Act → World → Prop} {rest : List Oper} {v : Value} {L : List (List UInt8)} (hgd : o.guard = none) (s x : Operand) (ho : o.op = .call { callee := .builtin .append, args := #[s, x], argTypes := #[36, 36] })
    (r : List UInt8) (hO : SOwn w w0.heap.size v L) (hB : Below w0.heap.size w0 w) (hbig : L.length ≤ 100000000)
    (hs : a.eval s = v) (hx : a.eval x = .slice (some ⟨w.heap.size, 0, none⟩) 1 1)
    (h : ∀ pa pn pc w', Hid (SOwn w' w0.heap.size (.slice pa pn pc) (L ++ [r])) → Hid (Below w0.heap.size w0 w') → pn = L.length + 1 → wpList Tryd.prog ops Q rest (a.put o.dst (.slice pa pn pc)) w') :
    wpList Tryd.prog ops Q (o :: rest) a (w.alloc (.cells #[.string (enc r)] 9)) := by
  refine wpList_append_strs hgd s x ho w0.heap.size v L hs (hO.alloc _) ⟨w.heap.size, 0, none⟩ 1 1 [r] hx rfl (lv_lit w [r]).news (by omega) (by rw [alloc_size]; have := hB.size; omega) fun v' w' h1 h2 => ?_
  obtain ⟨xa, b, cap, rfl, _⟩ := h1.row
  exact h xa _ cap w' (Lib.hid h1) (Lib.hid (below_grown (below_to hB (Nat.le_refl _) (below_new w _)) (Nat.le_refl _) h2 (own_from hO))) (by rw [List.length_append]; rfl)
/-- What parse gives. -/
def ParseP (l : List UInt8) (w w' : World) (e : Ending) : Prop := Below w.heap.size w w' ∧
  ((Jn.parse l = none ∧ e = .returned (.tuple #[.slice none 0 0, .int .i64 0, .bool false])) ∨
    ∃ L k pa pc, Jn.parse l = some (L, k) ∧ e = .returned (.tuple #[.slice pa L.length pc, .int .i64 (k : Int), .bool true]) ∧ SOwn w' w.heap.size (.slice pa L.length pc) L)
set_option maxHeartbeats 4000000 in
set_option maxRecDepth 100000 in
theorem parse_any (s : ByteArray) (hs : s.size ≤ 100000000) (w : World) (hE : EnvJ w) :
    Calls Tryd.prog 39 #[.string s] w fun e w' => ParseP s.data.toList w w' e := by
  have hz := Lib.size_eq s
  have HE := Lib.hid hE
  clear hE
  by_cases h16 : s.size < 16
  · have hP : RowKit.Hid (Jn.parse s.data.toList = some ([], 16)) := Lib.hid (by unfold Jn.parse; rw [if_pos (.inl (by omega))])
    clear hz
    go_enter Tryd.func39, Tryd.ntmps39
    go_wp2
    go_ret3
    exact ⟨Below.refl _ _, .inr ⟨[], 16, none, 0, hP.out, rfl, SOwn.nil _ _⟩⟩
  · have C1 := Lib.hid (fun w1 : World => numberIn_any s (by omega) w1)
    obtain ⟨ev, hev⟩ : ∃ ev, Jn.val s.data.toList = ev := ⟨_, rfl⟩
    rw [hev] at C1
    by_cases h0 : ev = 0
    · have hP : RowKit.Hid (Jn.parse s.data.toList = some ([], 16)) := Lib.hid (by unfold Jn.parse; rw [if_pos (.inr (by rw [hev, h0]))])
      subst h0
      clear hz hev
      go_enter Tryd.func39, Tryd.ntmps39
      go_wp2_with (go_at_call 75; with_reducible refine (C1.out _).mono ?_; rintro _ w2 ⟨rfl, rfl⟩)
      go_ret3
      exact ⟨Below.refl _ _, .inr ⟨[], 16, none, 0, hP.out, rfl, SOwn.nil _ _⟩⟩
    · have e0 : (ev == 0) = false := by simpa using h0
      by_cases h1 : ev < 16
      · have hP : RowKit.Hid (Jn.parse s.data.toList = none) := Lib.hid (by unfold Jn.parse; rw [hev, if_neg (by omega), if_pos (.inl h1)])
        have e1 : decide (ev < 16) = true := by simpa using h1
        clear hz hev
        go_enter Tryd.func39, Tryd.ntmps39
        go_wp2_with (go_at_call 75; with_reducible refine (C1.out _).mono ?_; rintro _ w2 ⟨rfl, rfl⟩)
        go_ret3
        exact ⟨Below.refl _ _, .inl ⟨hP.out, rfl⟩⟩
      · have e1 : decide (ev < 16) = false := by simpa using h1
        by_cases h2 : (s.size : Int) < ev
        · have hP : RowKit.Hid (Jn.parse s.data.toList = none) := Lib.hid (by unfold Jn.parse; rw [hev, if_neg (by omega), if_pos (.inr (by omega))])
          have e2 : decide ((s.size : Int) < ev) = true := by simpa using h2
          clear hz hev
          go_enter Tryd.func39, Tryd.ntmps39
          go_wp2_with (go_at_call 75; with_reducible refine (C1.out _).mono ?_; rintro _ w2 ⟨rfl, rfl⟩)
          go_ret3
          exact ⟨Below.refl _ _, .inl ⟨hP.out, rfl⟩⟩
        · have e2 : decide ((s.size : Int) < ev) = false := by simpa using h2
          obtain ⟨en, rfl⟩ : ∃ m : Nat, ev = (m : Int) := ⟨ev.toNat, by omega⟩
          have hes : en ≤ s.size := by omega
          have h16e : 16 ≤ en := by omega
          have e2n : decide (s.size < en) = false := by simp; omega
          have C2 := Lib.hid (fun w1 : World => numberIn_any (s.extract 8 s.size) (by rw [ext_size]; omega) w1)
          rw [ext_end] at C2
          obtain ⟨cv, hcv⟩ : ∃ cv, Jn.val (s.data.toList.drop 8) = cv := ⟨_, rfl⟩
          rw [hcv] at C2
          obtain ⟨RA, hRA⟩ : ∃ RA, Jn.rowsAll ((s.data.toList.take en).drop 16) = RA := ⟨_, rfl⟩
          have HP : RowKit.Hid (Jn.parse s.data.toList = Jn.fin cv en RA) := Lib.hid (by
            unfold Jn.parse
            rw [hev, if_neg (by omega), if_neg (by omega), show ((en : Nat) : Int).toNat = en by omega, hRA, hcv])
          have HRA : RowKit.Hid ((Jn.rowsAll ((s.data.toList.take en).drop 16)).map ([] ++ ·) = RA) := Lib.hid (by rw [hRA]; simp)
          have HLS := Lib.hid hz
          clear hcv hRA hev hz
          go_enter Tryd.func39, Tryd.ntmps39
          go_wp2_with (go_at_call 75; with_reducible refine (C1.out _).mono ?_; rintro _ w2 ⟨rfl, rfl⟩)
          go_loopw [2, 3, 4, 5, 6, 7] (fun x2 x3 x4 x5 x6 x7 wr => ∃ (at_ : Nat) (L : List (List UInt8)) (pa : Option Addr) (pc : Nat), x5 = .int .i64 at_ ∧ x3 = .int .i64 en ∧ at_ ≤ en ∧ 16 ≤ at_ ∧ x2 = .slice pa L.length pc ∧ L.length ≤ at_ ∧ Hid ((Jn.rowsAll ((s.data.toList.take en).drop at_)).map (L ++ ·) = RA) ∧ Hid (SOwn wr w.heap.size (.slice pa L.length pc) L) ∧ Hid (Below w.heap.size w wr)) (fun _ _ _ x5 _ _ _ => en - (intOf x5).toNat)
          case atStart => exact ⟨16, [], none, 0, rfl, rfl, h16e, Nat.le_refl _, rfl, by simp, HRA.out, SOwn.nil _ _, Below.refl _ _⟩
          case round =>
            obtain ⟨at_, L, pa, pc, rfl, rfl, hae, ha16, rfl, hLa, hM, hO, hB⟩ := hrel
            by_cases hlt : at_ < en
            · have CF := Lib.hid (firstRow_any (s.extract at_ en) (by rw [Lib.size_eq, ext_mid, List.length_drop, List.length_take]; omega) wr (HE.out.below hB.out))
              rw [ext_mid] at CF
              cases hfr : Jn.firstRow ((s.data.toList.take en).drop at_) with
              | none =>
                have hP : RowKit.Hid (Jn.parse s.data.toList = none) := Lib.hid (by
                  have e := Jn.parse_stop hM.out hlt (by rw [← HLS.out]; exact hes) hfr
                  have h := HP.out
                  rw [e] at h
                  exact h)
                rw [hfr] at CF
                have CF2 : RowKit.Hid (Calls Tryd.prog 76 #[.string (s.extract at_ en)] wr fun e w' => e = .returned (.tuple #[.string ⟨#[]⟩, .bool false]) ∧ ∃ n, w' = wr.drewN n) := CF
                clear hfr CF
                go_wp2_with (go_at_call 76; with_reducible refine CF2.out.mono ?_; rintro _ w3 ⟨rfl, k3, rfl⟩)
                go_ret3
                exact ⟨below_drewN hB.out _, .inl ⟨hP.out, rfl⟩⟩
              | some r =>
                have hst := Jn.parse_step hM.out hlt (by rw [← HLS.out]; exact hes) hfr
                have hrl : r.length ≤ en := by have := hst.2; omega
                have HST := Lib.hid hst.1
                have hle2 := hst.2
                rw [hfr] at CF
                have CF2 : RowKit.Hid (Calls Tryd.prog 76 #[.string (s.extract at_ en)] wr fun e w' => e = .returned (.tuple #[.string (enc r), .bool true]) ∧ ∃ n, w' = wr.drewN n) := CF
                have hrs : (enc r).size = r.length := Lib.size_eq (enc r)
                have hL8 : L.length ≤ 100000000 := by omega
                clear hfr CF hst
                go_wp2_with (first | (go_at_call 76; with_reducible refine CF2.out.mono ?_; rintro _ w3 ⟨rfl, k3, rfl⟩; have HO3 : RowKit.Hid (SOwn (wr.drewN k3) w.heap.size (.slice pa L.length pc) L) := Lib.hid (hO.out.drews k3); have HB3 := Lib.hid (below_drewN hB.out k3)) | (at_builtin; refine wpList_app_row1 rfl (.tmp 39) (.tmp 41) rfl r HO3.out HB3.out hL8 rfl rfl ?_; intro ta tn tc w4 HO4 HB4 htn; subst htn))
                go_roundw
                case rel => exact ⟨at_ + (16 + r.length), L ++ [r], ta, tc, by go_num, rfl, by omega, by omega, by rw [List.length_append]; rfl, by rw [List.length_append, List.length_singleton]; omega, HST.out, by have := HO4.out; rw [List.length_append]; exact this, HB4.out⟩
                case measure => simp [intOf]; omega
            · have e := Jn.parse_end hM.out (by omega)
              obtain rfl : at_ = en := by omega
              have hP := Lib.hid HP.out
              rw [e] at hP
              by_cases hc : cv = (L.length : Int)
              · have hP2 : RowKit.Hid (Jn.parse s.data.toList = some (L, at_)) := Lib.hid (by rw [hP.out]; unfold Jn.fin; dsimp only; rw [if_pos hc])
                have e3 : (cv != (L.length : Int)) = false := by simpa using hc
                clear hP hc e HP
                go_wp2_with (go_at_call 75; with_reducible refine (C2.out _).mono ?_; rintro _ w2 ⟨rfl, rfl⟩)
                go_ret3
                exact ⟨hB.out, .inr ⟨L, at_, pa, pc, hP2.out, rfl, hO.out⟩⟩
              · have hP2 : RowKit.Hid (Jn.parse s.data.toList = none) := Lib.hid (by rw [hP.out]; unfold Jn.fin; dsimp only; rw [if_neg hc])
                have e3 : (cv != (L.length : Int)) = true := by simpa using hc
                clear hP e HP
                go_wp2_with (go_at_call 75; with_reducible refine (C2.out _).mono ?_; rintro _ w2 ⟨rfl, rfl⟩)
                go_ret3
                exact ⟨hB.out, .inl ⟨hP2.out, rfl⟩⟩
end Go.Proofs.YtbpodclodflgfaaDoor
namespace Go.Proofs.YtbpodclodflgfaaDoor
open Go Go.RowKit
set_option maxHeartbeats 2000000 in
set_option maxRecDepth 100000 in
theorem cloneS_at (cap n : Nat) (a : Addr) (l : List (List UInt8)) (hn : l.length = n) (w : World) (hc : ∀ j u, (sv l)[j]? = some u → w.cell? (a.add j) = some u) (hg : 0 < n → a.block < w.heap.size) (hl : n ≤ 100000000) :
    Calls Tryd.prog 52 #[.slice (some a) n cap] w fun e w' => ∃ v', e = .returned v' ∧ SOwn w' w.heap.size v' l ∧ Below w.heap.size w w' := by
  have hnil := fun w' : World => Lib.run_eql_slice_nil (P := Tryd.prog) w' 36 9 (some a) n cap 0 0 Tryd.underlying36
  have HC := Lib.hid (fun o : Obj => show ∀ j u, (sv l)[j]? = some u → (w.alloc o).cell? (a.add j) = some u from fun j u hj => by
    have hp : 0 < n := by
      have := (List.getElem?_eq_some_iff.1 hj).1
      rw [sv_length] at this
      omega
    have hb : (a.add j).block = a.block := by unfold Addr.add; split <;> rfl
    exact (World.cell?_of_block (heap_alloc_old w o (by rw [hb]; exact hg hp))).trans (hc j u hj))
  have HN := Lib.hid hn
  clear hc hn
  go_enter Tryd.func52, Tryd.ntmps52
  go_wp2_with (at_builtin; refine wpList_append_strs rfl (.tmp 5) (.tmp 6) rfl w.heap.size _ [] rfl (zero_row w _ _) a n cap l rfl HN.out (HC.out _) (by simp; omega) (by rw [alloc_size]; omega) ?_; intro v1 w1 hown hgrow; have HO1 := Lib.hid hown; have HG1 := Lib.hid hgrow; clear hown hgrow)
  go_ret
  exact ⟨_, rfl, HO1.out, below_grown0 (Below.alloc (Below.refl _ _) (Nat.le_refl _) _) HG1.out (Nat.le_refl _)⟩
set_option maxHeartbeats 1000000 in
set_option maxRecDepth 100000 in
theorem cloneS_nil (w : World) :
    Calls Tryd.prog 52 #[.slice none 0 0] w fun e w' => ∃ v', e = .returned v' ∧ SOwn w' w.heap.size v' [] ∧ Below w.heap.size w w' := by
  have hnil := fun w' : World => Lib.run_eql_slice_nil (P := Tryd.prog) w' 36 9 none 0 0 0 0 Tryd.underlying36
  go_enter Tryd.func52, Tryd.ntmps52
  go_wp2
  go_ret
  exact ⟨_, rfl, SOwn.nil _ _, Below.refl _ _⟩
/-- Any list of strings that reads. -/
theorem cloneS_any (a : Option Addr) (b off n cap : Nat) (X : List (List UInt8)) (w : World) (h : Lv w a b off cap X) (hn : X.length = n) (hnil : a = none → cap = 0) (hl : n ≤ 100000000) :
    Calls Tryd.prog 52 #[.slice a n cap] w fun e w' => ∃ pa pc, e = .returned (.slice pa n pc) ∧ SOwn w' w.heap.size (.slice pa n pc) X ∧ Below w.heap.size w w' := by
  have key : Calls Tryd.prog 52 #[.slice a n cap] w fun e w' => ∃ v', e = .returned v' ∧ SOwn w' w.heap.size v' X ∧ Below w.heap.size w w' := by
    cases a with
    | none =>
      have h0 : X = [] := by
        cases X with
        | nil => rfl
        | cons x l => have := h.at_ (by simp); cases this
      subst h0
      obtain rfl := hnil rfl
      subst hn
      exact cloneS_nil w
    | some ad =>
      refine cloneS_at cap n ad X hn w (fun j u hj => ?_) (fun hp => ?_) hl
      · have hj1 : j < X.length := by have := (List.getElem?_eq_some_iff.1 hj).1; rw [sv_length] at this; exact this
        have e := h.at_ (by omega)
        injection e with e
        subst e
        exact h.news j u hj
      · have e := h.at_ (by omega)
        injection e with e
        subst e
        exact h.lt (by omega)
  refine key.mono fun e w' ⟨v', h1, h2, h3⟩ => ?_
  obtain ⟨xa, c, d, rfl, _⟩ := h2.row
  rw [hn] at h1 h2
  exact ⟨xa, d, h1, h2, h3⟩
/-- A row of the call's own reads. -/
theorem SOwn.lv {w : World} {base : Nat} {pa : Option Addr} {n pc : Nat} {X : List (List UInt8)} (h : SOwn w base (.slice pa n pc) X) : ∃ b, Lv w pa b 0 pc X ∧ X.length = n ∧ (pa = none → pc = 0) := by
  have hx := h.1
  rcases h.2 with ⟨he, h0⟩ | ⟨g, cap, cur, hv, hb, hg, hnc, _⟩
  · injection he with h1 h2 h3
    subst h1 h2 h3
    exact ⟨0, ⟨fun hp => by omega, fun j hj => by omega, fun hp => by omega, by omega⟩, h0, fun _ => rfl⟩
  · injection hv with h1 h2 h3
    subst h1 h2 h3
    refine ⟨g, ⟨fun _ => rfl, fun j hj => ?_, fun _ => (Array.getElem?_eq_some_iff.1 hg).1, hnc⟩, rfl, fun h => by cases h⟩
    have := World.ownsRow.cells (g := g) h rfl j _ (sv_at hj)
    rw [add_plain0] at this
    rw [Nat.zero_add]; exact this
end Go.Proofs.YtbpodclodflgfaaDoor
