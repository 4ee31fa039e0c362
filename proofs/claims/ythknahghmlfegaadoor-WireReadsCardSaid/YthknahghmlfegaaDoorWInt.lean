/-
  Reading an int and the byte behind it.
-/
import Derived.Test.YthknahghmlfegaaDoorWRd
import Derived.Test.YthknahghmlfegaaDoorWLib
import Derived.Lib.IndexBytes
import Derived.Lib.IndexMore
import Derived.Lib.AppendIntMem
namespace Go.Proofs.YthknahghmlfegaaDoor
open Go Go.RowKit Go.Shelf

namespace Wr
def vOf {α : Type} (d : α) : Option (α × List UInt8) → α | some p => p.1 | none => d
def rOf {α : Type} : Option (α × List UInt8) → ByteArray | some p => ⟨p.2.toArray⟩ | none => ⟨#[]⟩
def bOf {α : Type} (bad : Bool) : Option (α × List UInt8) → Bool | some _ => bad | none => true
theorem bs_len (l : List UInt8) : (⟨l.toArray⟩ : ByteArray).size = l.length := by show l.toArray.size = _; simp
theorem indexByte_no (e : UInt8) : ∀ (l : List UInt8), e ∉ l → Lib.indexByte l e = -1
  | [], _ => rfl
  | c :: r, h => by
    have hc : c ≠ e := fun q => h (by simp [q])
    have hr : e ∉ r := fun q => h (by simp [q])
    simp [Lib.indexByte, hc, indexByte_no e r hr]
theorem indexByte_at (e : UInt8) : ∀ (a b : List UInt8), e ∉ a → Lib.indexByte (a ++ e :: b) e = a.length
  | [], b, _ => by simp [Lib.indexByte]
  | c :: r, b, h => by
    have hc : c ≠ e := fun q => h (by simp [q])
    have hr : e ∉ r := fun q => h (by simp [q])
    have := indexByte_at e r b hr
    simp [Lib.indexByte, hc, this]
theorem cut_no {e : UInt8} {l : List UInt8} (h : e ∉ l) : Lib.cut l [e] = (l, [], false) := by
  unfold Lib.cut
  rw [Lib.index_one, indexByte_no e l h]
  simp
theorem cut_at {e : UInt8} {l : List UInt8} (h : e ∈ l) : ∃ b, Lib.cut l [e] = (upTo e l, b, true) := by
  obtain ⟨a, b, rfl, ha⟩ := List.eq_append_cons_of_mem h
  refine ⟨b, ?_⟩
  unfold Lib.cut
  rw [Lib.index_one, indexByte_at e a b ha, upTo_at b ha]
  simp
end Wr

theorem cut_calls (s : ByteArray) (e : UInt8) (w : World) (hs : s.size ≤ 1000000) (hE : Env w) :
    Calls Tryd.prog 61 #[.string s, .string ⟨#[e]⟩] w fun x w' => x = .returned (.tuple #[.string ⟨(Lib.cut s.data.toList [e]).1.toArray⟩, .string ⟨(Lib.cut s.data.toList [e]).2.1.toArray⟩, .bool (Lib.cut s.data.toList [e]).2.2]) ∧ ∃ n, w' = w.drewN n := by
  obtain ⟨m, hm⟩ := hE.max
  exact Any.strings_Cut Tryd.lays145 s ⟨#[e]⟩ m w (by omega) hm
theorem atoi_good (d : ByteArray) (v : Int) (h : Lib.atoiAll d.data.toList = .ok v) (w : World) (hs : d.size ≤ 1000000) :
    Calls Tryd.prog 62 #[.string d] w fun e w' => e = .returned (.tuple #[.int .i64 v, .nilIface]) ∧ Below w.heap.size w w' :=
  (Any.strconv_Atoi_ok Tryd.laysC172 d (by omega) v h w).mono fun e w' ⟨h1, h2⟩ => ⟨h1, by
    rcases h2 with rfl | ⟨t, rfl⟩
    · exact Below.refl _ _
    · exact Lib.bytesWorld_below _ _ _⟩
theorem atoi_bad (d : ByteArray) (h : ∀ v, Lib.atoiAll d.data.toList ≠ .ok v) (w : World) (hs : d.size ≤ 1000000) (hE : Env w) :
    Calls Tryd.prog 62 #[.string d] w fun e w' => ∃ v t p, e = .returned (.tuple #[.int .i64 v, .iface t p]) ∧ Below w.heap.size w w' := by
  rcases hc : Lib.atoiAll d.data.toList with v | _ | _
  · exact absurd hc (h v)
  · obtain ⟨te, pe, hv⟩ := hE.syn
    exact (Any.strconv_Atoi_syntax Tryd.laysC172 d (by omega) hc _ w hv (.inr ⟨te, pe, rfl⟩)).mono fun e w' ⟨N, h1, _, _, h2⟩ => ⟨_, _, _, h1, h2⟩
  · obtain ⟨te, pe, hv⟩ := hE.rng
    exact (Any.strconv_Atoi_range Tryd.laysC172 d (by omega) hc _ w hv (.inr ⟨te, pe, rfl⟩)).mono fun e w' ⟨N, h1, _, _, h2⟩ => ⟨_, _, _, h1, h2⟩
theorem atoi_any (d : ByteArray) (w : World) (hs : d.size ≤ 1000000) (hE : Env w) :
    Calls Tryd.prog 62 #[.string d] w fun e w' => ∃ v x, e = .returned (.tuple #[.int .i64 v, x]) ∧ Below w.heap.size w w' := by
  by_cases h : ∃ v, Lib.atoiAll d.data.toList = .ok v
  · obtain ⟨v, hv⟩ := h
    exact (atoi_good d v hv w hs).mono fun _ _ ⟨h1, h2⟩ => ⟨_, _, h1, h2⟩
  · exact (atoi_bad d (fun v hv => h ⟨v, hv⟩) w hs hE).mono fun _ _ ⟨v, t, p, h1, h2⟩ => ⟨v, .iface t p, h1, h2⟩
theorem itoa_calls (n : Int) (h : Wr.i64 n) (w : World) (hE : Env w) :
    Calls Tryd.prog 42 #[.int .i64 n] w fun e w' => e = .returned (.string ⟨(Lib.itoa n).toArray⟩) ∧ Below w.heap.size w w' :=
  (Any.strconv_Itoa Tryd.laysM171 n h.1 h.2 w hE.pow).mono fun _ _ ⟨h1, _, _, h2⟩ => ⟨h1, h2 ▸ Lib.below_grow _ _ (Nat.le_refl _) _ _⟩

/-- What integer looks at. -/
theorem head_len (r : ByteArray) : (r.extract 0 (min (r.size : Int) 21).toNat).data.toList = r.data.toList.take 21 := by
  have hz : r.size = r.data.toList.length := Lib.size_eq r
  rw [ByteArray.data_extract, Array.toList_extract]
  simp only [List.extract, List.drop_zero, Nat.sub_zero]
  by_cases h : r.size ≤ 21
  · rw [List.take_of_length_le (by omega), List.take_of_length_le (by omega)]
  · congr 1; omega
theorem head_size (r : ByteArray) : (r.extract 0 (min (r.size : Int) 21).toNat).size ≤ 21 := by
  rw [Lib.size_eq, head_len, List.length_take]; omega

set_option maxHeartbeats 1000000 in
set_option maxRecDepth 100000 in
theorem integer_no (e : UInt8) (g : Nat) (r : ByteArray) (bad : Bool) (W : World) (h : Rd W g r bad) (hE : Env W) (hs : r.size ≤ 1000000) (hn : e ∉ r.data.toList.take 21) :
    Calls Tryd.prog 48 #[.pointer (some ⟨g, 0, none⟩), .string ⟨#[e]⟩] W fun x w' => x = .returned (.int .i64 0) ∧ Rd w' g ⟨#[]⟩ true ∧ Gr g W w' := by
  have hc0 := h.c0
  have HR := Lib.hid h
  have HE := Lib.hid hE
  have hl := head_len r
  have hz := head_size r
  obtain ⟨H, hH⟩ : ∃ H, r.extract 0 (min (r.size : Int) 21).toNat = H := ⟨_, rfl⟩
  rw [hH] at hl hz
  rw [← hl] at hn
  have HC := Lib.hid (fun W (hE : Env W) => cut_calls H e W (by omega) hE)
  simp only [Wr.cut_no hn, Lib.mk_data] at HC
  clear h hE hn hl
  go_enter Tryd.func48, Tryd.ntmps48
  go_wp2_with fail
  go_quiet (fail)
  clear hH
  go_wp2_with fail
  refine (HC.out _ (HE.out.drews _)).mono ?_
  rintro x w1 ⟨rfl, n1, rfl⟩
  go_wp2_with fail
  refine (atoi_any H _ (by omega) (HE.out.drews _)).mono ?_
  rintro x w2 ⟨v, y, rfl, hb⟩
  go_wp2_with fail
  have hb2 : Below W.heap.size W w2 := (below_drewN (Below.refl _ _) _).trans hb
  have HB := Lib.hid hb2
  clear hb hb2
  refine (fail_any g r bad _ (HR.out.below HB.out)).mono ?_
  rintro x w3 ⟨⟨v3, rfl⟩, h3, h4⟩
  go_wp2
  go_ret
  exact ⟨rfl, h3, Gr.trans (Gr.of_below HB.out) h4⟩

theorem upTo_le (e : UInt8) (l : List UInt8) : (Wr.upTo e l).length ≤ l.length := by unfold Wr.upTo; exact (List.takeWhile_prefix _).length_le
theorem upTo_lt {e : UInt8} {l : List UInt8} (h : e ∈ l) : (Wr.upTo e l).length + 1 ≤ l.length := by
  obtain ⟨a, b, rfl, ha⟩ := List.eq_append_cons_of_mem h
  rw [Wr.upTo_at b ha]; simp

set_option maxHeartbeats 1000000 in
set_option maxRecDepth 100000 in
theorem integer_bad (e : UInt8) (g : Nat) (r : ByteArray) (bad : Bool) (W : World) (h : Rd W g r bad) (hE : Env W) (hs : r.size ≤ 1000000) (hn : e ∈ r.data.toList.take 21)
    (hv : ∀ v, Lib.atoiAll (Wr.upTo e (r.data.toList.take 21)) ≠ .ok v) :
    Calls Tryd.prog 48 #[.pointer (some ⟨g, 0, none⟩), .string ⟨#[e]⟩] W fun x w' => x = .returned (.int .i64 0) ∧ Rd w' g ⟨#[]⟩ true ∧ Gr g W w' := by
  have hc0 := h.c0
  have HR := Lib.hid h
  have HE := Lib.hid hE
  have hl := head_len r
  have hz := head_size r
  obtain ⟨H, hH⟩ : ∃ H, r.extract 0 (min (r.size : Int) 21).toNat = H := ⟨_, rfl⟩
  rw [hH] at hl hz
  rw [← hl] at hn hv
  obtain ⟨b, hcut⟩ := Wr.cut_at hn
  have hd := upTo_le e H.data.toList
  rw [← Lib.size_eq] at hd
  generalize Wr.upTo e H.data.toList = d at hcut hd hv
  have HC := Lib.hid (fun W (hE : Env W) => cut_calls H e W (by omega) hE)
  simp only [hcut] at HC
  have HA := Lib.hid (fun W (hE : Env W) => atoi_bad ⟨d.toArray⟩ hv W (by rw [Wr.bs_len]; omega) hE)
  clear h hE hn hl hcut hv
  go_enter Tryd.func48, Tryd.ntmps48
  go_wp2_with fail
  go_quiet (fail)
  clear hH
  go_wp2_with fail
  refine (HC.out _ (HE.out.drews _)).mono ?_
  rintro x w1 ⟨rfl, n1, rfl⟩
  go_wp2_with fail
  refine (HA.out _ (HE.out.drews _)).mono ?_
  rintro x w2 ⟨v, t, y, rfl, hb⟩
  go_wp2_with fail
  have hb2 : Below W.heap.size W w2 := (below_drewN (Below.refl _ _) _).trans hb
  have HB := Lib.hid hb2
  clear hb hb2
  refine (fail_any g r bad _ (HR.out.below HB.out)).mono ?_
  rintro x w3 ⟨⟨v3, rfl⟩, h3, h4⟩
  go_wp2
  go_ret
  exact ⟨rfl, h3, Gr.trans (Gr.of_below HB.out) h4⟩

set_option maxHeartbeats 1000000 in
set_option maxRecDepth 100000 in
theorem integer_diff (e : UInt8) (g : Nat) (r : ByteArray) (bad : Bool) (W : World) (h : Rd W g r bad) (hE : Env W) (hs : r.size ≤ 1000000) (hn : e ∈ r.data.toList.take 21)
    (v : Int) (hv : Lib.atoiAll (Wr.upTo e (r.data.toList.take 21)) = .ok v) (hi : Lib.itoa v ≠ Wr.upTo e (r.data.toList.take 21)) :
    Calls Tryd.prog 48 #[.pointer (some ⟨g, 0, none⟩), .string ⟨#[e]⟩] W fun x w' => x = .returned (.int .i64 0) ∧ Rd w' g ⟨#[]⟩ true ∧ Gr g W w' := by
  have hc0 := h.c0
  have HR := Lib.hid h
  have HE := Lib.hid hE
  have hl := head_len r
  have hz := head_size r
  have hiv := Lib.atoiAll_bounds hv
  obtain ⟨H, hH⟩ : ∃ H, r.extract 0 (min (r.size : Int) 21).toNat = H := ⟨_, rfl⟩
  rw [hH] at hl hz
  rw [← hl] at hn hv hi
  obtain ⟨b, hcut⟩ := Wr.cut_at hn
  have hd := upTo_le e H.data.toList
  rw [← Lib.size_eq] at hd
  generalize Wr.upTo e H.data.toList = d at hcut hd hv hi
  have HC := Lib.hid (fun W (hE : Env W) => cut_calls H e W (by omega) hE)
  simp only [hcut] at HC
  have HA := Lib.hid (fun W => atoi_good ⟨d.toArray⟩ v hv W (by rw [Wr.bs_len]; omega))
  have HI := Lib.hid (fun W hE => itoa_calls v hiv W hE)
  have hne : (Lib.itoa v == d) = false := by simpa using hi
  clear h hE hn hl hcut hv hi hiv
  go_enter Tryd.func48, Tryd.ntmps48
  go_wp2_with fail
  go_quiet (fail)
  clear hH
  go_wp2_with fail
  refine (HC.out _ (HE.out.drews _)).mono ?_
  rintro x w1 ⟨rfl, n1, rfl⟩
  go_wp2_with fail
  refine (HA.out _).mono ?_
  rintro x w2 ⟨rfl, hb⟩
  go_wp2_with fail
  have hb2 : Below W.heap.size W w2 := (below_drewN (Below.refl _ _) _).trans hb
  have HB := Lib.hid hb2
  clear hb hb2
  refine (HI.out _ (HE.out.new HB.out)).mono ?_
  rintro x w4 ⟨rfl, hb⟩
  have hb2 : Below W.heap.size W w4 := HB.out.trans (hb.mono HB.out.size)
  have HB' := Lib.hid hb2
  clear hb hb2
  go_wp2_with fail
  refine (fail_any g r bad _ (HR.out.below HB'.out)).mono ?_
  rintro x w3 ⟨⟨v3, rfl⟩, h3, h4⟩
  go_wp2
  go_ret
  exact ⟨rfl, h3, Gr.trans (Gr.of_below HB'.out) h4⟩

set_option maxHeartbeats 1000000 in
set_option maxRecDepth 100000 in
theorem integer_good (e : UInt8) (g : Nat) (r : ByteArray) (bad : Bool) (W : World) (h : Rd W g r bad) (hE : Env W) (hs : r.size ≤ 1000000) (hn : e ∈ r.data.toList.take 21)
    (v : Int) (hv : Lib.atoiAll (Wr.upTo e (r.data.toList.take 21)) = .ok v) (hi : Lib.itoa v = Wr.upTo e (r.data.toList.take 21)) :
    Calls Tryd.prog 48 #[.pointer (some ⟨g, 0, none⟩), .string ⟨#[e]⟩] W fun x w' => x = .returned (.int .i64 v) ∧ Rd w' g ⟨(r.data.toList.drop ((Wr.upTo e (r.data.toList.take 21)).length + 1)).toArray⟩ bad ∧ Gr g W w' := by
  have hc0 := h.c0
  have HR := Lib.hid h
  have HE := Lib.hid hE
  have hl := head_len r
  have hz := head_size r
  have hiv := Lib.atoiAll_bounds hv
  have hsz := Lib.size_eq r
  have hlt := upTo_lt hn
  rw [List.length_take] at hlt
  obtain ⟨H, hH⟩ : ∃ H, r.extract 0 (min (r.size : Int) 21).toNat = H := ⟨_, rfl⟩
  rw [hH] at hl hz
  rw [← hl] at hn hv hi hlt ⊢
  obtain ⟨b, hcut⟩ := Wr.cut_at hn
  generalize Wr.upTo e H.data.toList = d at hcut hlt hv hi ⊢
  have HC := Lib.hid (fun W (hE : Env W) => cut_calls H e W (by omega) hE)
  simp only [hcut] at HC
  obtain ⟨D, hD⟩ : ∃ D : ByteArray, D = ⟨d.toArray⟩ := ⟨_, rfl⟩
  have hDl : D.data.toList = d := by rw [hD]
  have hDs : D.size = d.length := by rw [hD, Wr.bs_len]
  rw [← hD] at HC
  have HA := Lib.hid (fun W => atoi_good D v (by rw [hDl]; exact hv) W (by omega))
  have HI := Lib.hid (fun W hE => itoa_calls v hiv W hE)
  rw [hi, ← hD] at HI
  have hne : (D.toList != D.toList) = false := by simp
  have hr : r.extract (D.size + 1) r.size = ⟨(r.data.toList.drop (d.length + 1)).toArray⟩ := by
    rw [hDs]
    apply ByteArray.ext
    apply Array.ext'
    rw [Lib.extract_to_end]
  have hle : (D.size : Int) + 1 ≤ r.size := by omega
  clear h hE hn hl hcut hv hi hiv hsz hlt hDl hD
  clear hDs
  go_enter Tryd.func48, Tryd.ntmps48
  go_wp2_with fail
  go_quiet (fail)
  clear hH
  go_wp2_with fail
  refine (HC.out _ (HE.out.drews _)).mono ?_
  rintro x w1 ⟨rfl, n1, rfl⟩
  go_wp2_with fail
  refine (HA.out _).mono ?_
  rintro x w2 ⟨rfl, hb⟩
  go_wp2_with fail
  have hb2 : Below W.heap.size W w2 := (below_drewN (Below.refl _ _) _).trans hb
  have HB := Lib.hid hb2
  clear hb hb2
  refine (HI.out _ (HE.out.new HB.out)).mono ?_
  rintro x w4 ⟨rfl, hb⟩
  have hb2 : Below W.heap.size W w4 := HB.out.trans (hb.mono HB.out.size)
  have HB' := Lib.hid hb2
  have hR4 := HR.out.below hb2
  have hc4 := hR4.c0
  have hf4 := hR4.f0
  have HR4 := Lib.hid hR4
  clear hb hb2 hR4
  go_wp2_with fail
  go_ret
  exact ⟨rfl, HR4.out.set0 _, Gr.trans (Gr.of_below HB'.out) (Gr.set _ _ _)⟩

/-- integer: what takeInt takes. -/
theorem integer_any (e : UInt8) (g : Nat) (r : ByteArray) (bad : Bool) (W : World) (h : Rd W g r bad) (hE : Env W) (hs : r.size ≤ 1000000) :
    Calls Tryd.prog 48 #[.pointer (some ⟨g, 0, none⟩), .string ⟨#[e]⟩] W fun x w' =>
      x = .returned (.int .i64 (Wr.vOf 0 (Wr.takeInt e r.data.toList))) ∧ Rd w' g (Wr.rOf (Wr.takeInt e r.data.toList)) (Wr.bOf bad (Wr.takeInt e r.data.toList)) ∧ Gr g W w' := by
  by_cases hn : e ∈ r.data.toList.take 21
  · have e0 : Wr.takeInt e r.data.toList = (Wr.unItoa (Wr.upTo e (r.data.toList.take 21))).map (fun n => (n, r.data.toList.drop ((Wr.upTo e (r.data.toList.take 21)).length + 1))) := by
      unfold Wr.takeInt; rw [if_pos hn]
    by_cases hv : ∃ v, Lib.atoiAll (Wr.upTo e (r.data.toList.take 21)) = .ok v
    · obtain ⟨v, hv⟩ := hv
      by_cases hi : Lib.itoa v = Wr.upTo e (r.data.toList.take 21)
      · have e1 : Wr.unItoa (Wr.upTo e (r.data.toList.take 21)) = some v := by unfold Wr.unItoa; rw [hv]; simp [hi]
        rw [e0, e1]
        exact integer_good e g r bad W h hE hs hn v hv hi
      · have e1 : Wr.unItoa (Wr.upTo e (r.data.toList.take 21)) = none := by unfold Wr.unItoa; rw [hv]; simp [hi]
        rw [e0, e1]
        exact integer_diff e g r bad W h hE hs hn v hv hi
    · have e1 : Wr.unItoa (Wr.upTo e (r.data.toList.take 21)) = none := by
        unfold Wr.unItoa
        split
        · rename_i v hh
          exact absurd ⟨v, hh⟩ hv
        · rfl
      rw [e0, e1]
      exact integer_bad e g r bad W h hE hs hn (fun v hh => hv ⟨v, hh⟩)
  · have e0 : Wr.takeInt e r.data.toList = none := by unfold Wr.takeInt; rw [if_neg hn]
    rw [e0]
    exact integer_no e g r bad W h hE hs hn
end Go.Proofs.YthknahghmlfegaaDoor
