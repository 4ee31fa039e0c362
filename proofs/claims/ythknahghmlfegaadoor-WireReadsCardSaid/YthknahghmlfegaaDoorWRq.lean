/-
  The reference's reader.
-/
import Derived.Test.YthknahghmlfegaaDoorWBackN
import Derived.Test.YthknahghmlfegaaDoorWEq
namespace Go.Proofs.YthknahghmlfegaaDoor
open Go Go.RowKit Go.Shelf

/-- Block g is a reader of the reference: what is left, and whether it has failed. -/
def Rq (W : World) (g : Nat) (r : ByteArray) (bad : Bool) : Prop := W.heap[g]? = some (.cells #[.string r, .bool bad] 56 (0, 0))
theorem Rq.c0 {W : World} {g : Nat} {r : ByteArray} {bad : Bool} (h : Rq W g r bad) : W.cell? ⟨g, 0, none⟩ = some (.string r) := by unfold Rq at h; simp [World.cell?, h]
theorem Rq.c1 {W : World} {g : Nat} {r : ByteArray} {bad : Bool} (h : Rq W g r bad) : W.cell? ⟨g, 1, none⟩ = some (.bool bad) := by unfold Rq at h; simp [World.cell?, h]
theorem Rq.f0 {W : World} {g : Nat} {r : ByteArray} {bad : Bool} (h : Rq W g r bad) : W.frozen? ⟨g, 0, none⟩ = false := by unfold Rq at h; simp [World.frozen?, h]
theorem Rq.f1 {W : World} {g : Nat} {r : ByteArray} {bad : Bool} (h : Rq W g r bad) : W.frozen? ⟨g, 1, none⟩ = false := by unfold Rq at h; simp [World.frozen?, h]
theorem Rq.lt {W : World} {g : Nat} {r : ByteArray} {bad : Bool} (h : Rq W g r bad) : g < W.heap.size := lt_of_block h
theorem Rq.set0 {W : World} {g : Nat} {r : ByteArray} {bad : Bool} (h : Rq W g r bad) (q : ByteArray) : Rq (W.setCell ⟨g, 0, none⟩ (.string q)) g q bad := heap_setCell_same W g 0 _ _ _ h
theorem Rq.set1 {W : World} {g : Nat} {r : ByteArray} {bad : Bool} (h : Rq W g r bad) (q : Bool) : Rq (W.setCell ⟨g, 1, none⟩ (.bool q)) g r q := heap_setCell_same W g 1 _ _ _ h
theorem Rq.below {W w' : World} {g : Nat} {r : ByteArray} {bad : Bool} (h : Rq W g r bad) (hb : Below W.heap.size W w') : Rq w' g r bad := (hb.block g h.lt).trans h
theorem Rq.drews {W : World} {g : Nat} {r : ByteArray} {bad : Bool} (h : Rq W g r bad) (n : Nat) : Rq (W.drewN n) g r bad := h

theorem Rq.other {W w' : World} {g k : Nat} {r : ByteArray} {bad : Bool} (h : Rq W g r bad) (hb : Gr k W w') (hne : g ≠ k) : Rq w' g r bad := (hb.block g h.lt (fun e => by injection e; omega)).trans h
set_option maxHeartbeats 1000000 in
set_option maxRecDepth 100000 in
theorem rleft_any (g : Nat) (r : ByteArray) (bad : Bool) (W : World) (h : Rq W g r bad) :
    Calls Tryd.prog 37 #[.pointer (some ⟨g, 0, none⟩)] W fun e w' => e = .returned (.int .i64 r.size) ∧ W = w' := by
  have hc0 := h.c0
  clear h
  go_enter Tryd.func37, Tryd.ntmps37
  go_wp2
  go_ret
  exact ⟨rfl, rfl⟩

set_option maxHeartbeats 1000000 in
set_option maxRecDepth 100000 in
theorem rdone_any (g : Nat) (r : ByteArray) (bad : Bool) (W : World) (h : Rq W g r bad) :
    Calls Tryd.prog 39 #[.pointer (some ⟨g, 0, none⟩)] W fun e w' => e = .returned (.bool (!bad && r.toList.isEmpty)) ∧ W = w' := by
  have hc0 := h.c0
  have hc1 := h.c1
  clear h
  cases bad
  all_goals
    go_enter Tryd.func39, Tryd.ntmps39
    go_wp2
    go_ret
    exact ⟨by first | rfl | simp, rfl⟩

set_option maxHeartbeats 1000000 in
set_option maxRecDepth 100000 in
theorem ropen_any (s : ByteArray) (W : World) :
    Calls Tryd.prog 22 #[.string s] W fun e w' => e = .returned (.pointer (some ⟨W.heap.size, 0, none⟩)) ∧ Rq w' W.heap.size s false ∧ Below W.heap.size W w' := by
  go_enter Tryd.func22, Tryd.ntmps22
  go_wp2
  go_ret
  exact ⟨rfl, by unfold Rq; exact heap_alloc_new _ _, (Below.refl _ _).alloc (Nat.le_refl _) _⟩

set_option maxHeartbeats 1000000 in
set_option maxRecDepth 100000 in
theorem rfail_any (g : Nat) (r : ByteArray) (bad : Bool) (W : World) (h : Rq W g r bad) :
    Calls Tryd.prog 52 #[.pointer (some ⟨g, 0, none⟩)] W fun e w' => e = .returned (.int .i64 0) ∧ Rq w' g ⟨#[]⟩ true ∧ Gr g W w' := by
  have hc0 := h.c0
  have hc1 := h.c1
  have hf0 := h.f0
  have hf1 := h.f1
  have HR := Lib.hid h
  clear h
  go_enter Tryd.func52, Tryd.ntmps52
  go_wp2
  go_ret
  exact ⟨rfl, (HR.out.set0 _).set1 _, Gr.trans (Gr.set _ _ _) (Gr.set _ _ _)⟩

namespace Wr
theorem takeInt_at {e : UInt8} {l : List UInt8} {k : Nat} (hk : k < 21) (he : e ∉ l.take k) (hc : l[k]? = some e) : takeInt e l = (unItoa (l.take k)).map (fun n => (n, l.drop (k + 1))) := by
  obtain ⟨hkl, hce⟩ := List.getElem?_eq_some_iff.1 hc
  have h1 : l.take 21 = l.take k ++ e :: (l.take 21).drop (k + 1) := by
    have h2 : (l.take 21).take k = l.take k := by rw [List.take_take]; congr 1; omega
    have h3 : k < (l.take 21).length := by rw [List.length_take]; omega
    have h4 : (l.take 21)[k] = e := by rw [List.getElem_take]; exact hce
    conv => lhs; rw [← List.take_append_drop k (l.take 21), h2, List.drop_eq_getElem_cons h3, h4]
  have h5 : upTo e (l.take 21) = l.take k := by rw [h1]; exact upTo_at _ he
  unfold takeInt
  rw [if_pos (by rw [h1]; simp), h5]
  congr 1
  funext n
  rw [List.length_take, Nat.min_eq_left (by omega)]
theorem takeInt_none {e : UInt8} {l : List UInt8} (h : e ∉ l.take 21) : takeInt e l = none := by unfold takeInt; rw [if_neg h]
theorem take_mem_succ {e : UInt8} {l : List UInt8} {k : Nat} {c : UInt8} (h : e ∉ l.take k) (hc : l[k]? = some c) (hne : c ≠ e) : e ∉ l.take (k + 1) := by
  rw [List.take_add_one, hc]
  intro hm
  rcases List.mem_append.1 hm with hm | hm
  · exact h hm
  · exact hne (List.mem_singleton.1 hm).symm
end Wr

/-- What ahead leaves. -/
def Ahead (g : Nat) (bad : Bool) (W : World) (X : Option (Int × List UInt8)) (e : Ending) (w' : World) : Prop :=
  e = .returned (.int .i64 (Wr.vOf 0 X)) ∧ Rq w' g (Wr.rOf X) (Wr.bOf bad X) ∧ Gr g W w'

set_option maxHeartbeats 4000000 in
set_option maxRecDepth 100000 in
theorem ahead_any (e : UInt8) (g : Nat) (r : ByteArray) (bad : Bool) (W : World) (h : Rq W g r bad) (hs : r.size ≤ 1000000) :
    Calls Tryd.prog 49 #[.pointer (some ⟨g, 0, none⟩), .int .u8 (e.toNat : Int)] W (Ahead g bad W (Wr.takeInt e r.data.toList)) := by
  have hc0 := h.c0
  have hf0 := h.f0
  have HR := Lib.hid h
  have HZ := Lib.hid (Lib.size_eq r)
  clear h
  go_enter Tryd.func49, Tryd.ntmps49
  go_wp2
  go_loop [5] (fun i => ∃ k : Nat, i = .int .i64 k ∧ k ≤ r.size ∧ k ≤ 21 ∧ Hid (e ∉ r.data.toList.take k)) (fun i => 21 - (intOf i).toNat)
  case atStart => exact ⟨0, rfl, Nat.zero_le _, by omega, (show _ ∉ _ by simp)⟩
  case round =>
    obtain ⟨k, rfl, hk, hk21, hne⟩ := hrel
    by_cases hkl : k < r.size
    · have HG := Lib.hid (Wr.get_some r k hkl)
      by_cases hke : r[k] = e
      · have hb1 : ((r[k].toNat : Int) == (e.toNat : Int)) = true := by rw [hke]; simp
        have hb2 : ((r[k].toNat : Int) != (e.toNat : Int)) = false := by rw [hke]; simp
        have HKE := Lib.hid hke
        clear hke
        by_cases h21 : k < 21
        · -- the byte is there
          have HX := Lib.hid (Wr.takeInt_at h21 hne.out (by rw [HG.out, HKE.out]))
          have hel : (r.extract 0 k).data.toList = r.data.toList.take k := by rw [Lib.extract_data, List.drop_zero, Nat.sub_zero]
          obtain ⟨F, hF⟩ : ∃ F : ByteArray, r.extract 0 k = F := ⟨_, rfl⟩
          rw [hF] at hel
          have hFs : F.size ≤ 21 := by rw [Lib.size_eq, hel, List.length_take]; omega
          have HBk := Lib.hid (fun w => backR_any F hFs w)
          rw [hel] at HBk
          clear hel
          go_wp2_with fail
          refine (HBk.out _).mono ?_
          rintro q w1 ⟨z, rfl, hz, hB⟩
          have HB := Lib.hid hB
          clear hB hF
          cases hu : Wr.unItoa (r.data.toList.take k) with
          | none =>
            have hX := HX.out
            rw [hu] at hX
            simp only [Option.map_none] at hX
            have HX2 := Lib.hid hX
            clear hX hz
            simp only [Option.isSome_none]
            clear hu
            go_wp2_with fail
            refine (rfail_any g r bad _ (HR.out.below HB.out)).mono ?_
            rintro q w3 ⟨rfl, h3, h4⟩
            have H3 := Lib.hid h3
            clear h3
            go_wp2
            go_ret
            unfold Ahead
            rw [HX2.out]
            exact ⟨rfl, H3.out, Gr.trans (Gr.of_below HB.out) h4⟩
          | some n =>
            obtain rfl := hz n hu
            have hX := HX.out
            rw [hu] at hX
            simp only [Option.map_some] at hX
            have HX2 := Lib.hid hX
            clear hX hz
            simp only [Option.isSome_some]
            clear hu
            have hR1 := HR.out.below HB.out
            have hc1 := hR1.c0
            have hf1 := hR1.f0
            have HR1 := Lib.hid hR1
            have HEx : Hid (r.extract (k + 1) r.size = ⟨(r.data.toList.drop (k + 1)).toArray⟩) := by
              show _ = _
              apply ByteArray.ext; apply Array.ext'; rw [Lib.extract_to_end]
            clear hR1
            go_wp2_with fail
            go_ret
            unfold Ahead
            rw [HX2.out]
            simp only [Wr.rOf, Wr.vOf, Wr.bOf]
            rw [← HEx.out]
            exact ⟨rfl, HR1.out.set0 _, Gr.trans (Gr.of_below HB.out) (Gr.set _ _ _)⟩
        · obtain rfl : k = 21 := by omega
          have HX := Lib.hid (Wr.takeInt_none hne.out)
          have hel : (r.extract 0 21).data.toList = r.data.toList.take 21 := by rw [Lib.extract_data, List.drop_zero]
          obtain ⟨F, hF⟩ : ∃ F : ByteArray, r.extract 0 21 = F := ⟨_, rfl⟩
          rw [hF] at hel
          have hFs : F.size ≤ 21 := by rw [Lib.size_eq, hel, List.length_take]; omega
          have hu : Wr.unItoa (r.data.toList.take 21) = none := by
            cases hu : Wr.unItoa (r.data.toList.take 21) with
            | none => rfl
            | some n =>
              have := Wr.unItoa_len hu
              rw [List.length_take, ← HZ.out] at this
              omega
          have HBk := Lib.hid (fun w => backR_any F hFs w)
          rw [hel, hu] at HBk
          clear hel hu
          go_wp2_with fail
          refine (HBk.out _).mono ?_
          rintro q w1 ⟨z, rfl, hz, hB⟩
          have HB := Lib.hid hB
          clear hB hF hz
          simp only [Option.isSome_none]
          go_wp2_with fail
          refine (rfail_any g r bad _ (HR.out.below HB.out)).mono ?_
          rintro q w3 ⟨rfl, h3, h4⟩
          have H3 := Lib.hid h3
          clear h3
          go_wp2
          go_ret
          unfold Ahead
          rw [HX.out]
          exact ⟨rfl, H3.out, Gr.trans (Gr.of_below HB.out) h4⟩
      · have hci : (r[k].toNat : Int) ≠ (e.toNat : Int) := fun q => hke (UInt8.toNat_inj.1 (by omega))
        have hb1 : ((r[k].toNat : Int) == (e.toNat : Int)) = false := by rw [beq_eq_false_iff_ne]; exact hci
        have hb2 : ((r[k].toNat : Int) != (e.toNat : Int)) = true := by simp [bne, hb1]
        have HKE := Lib.hid hke
        clear hke hci
        by_cases h21 : k < 21
        · have HN := Lib.hid (Wr.take_mem_succ hne.out HG.out HKE.out)
          go_wp2
          go_round
          case rel => exact ⟨k + 1, by go_num, by omega, by omega, HN.out⟩
          case measure => simp [intOf]; omega
        · obtain rfl : k = 21 := by omega
          have HX := Lib.hid (Wr.takeInt_none hne.out)
          go_wp2_with fail
          refine (rfail_any g r bad _ HR.out).mono ?_
          rintro q w3 ⟨rfl, h3, h4⟩
          have H3 := Lib.hid h3
          clear h3
          go_wp2
          go_ret
          unfold Ahead
          rw [HX.out]
          exact ⟨rfl, H3.out, h4⟩
    · obtain rfl : k = r.size := by omega
      have HX : Hid (Wr.takeInt e r.data.toList = none) := by
        show _ = _
        apply Wr.takeInt_none
        have h1 := hne.out
        rw [List.take_of_length_le (by rw [← HZ.out]; omega)] at h1
        exact fun hm => h1 (List.mem_of_mem_take hm)
      go_wp2_with fail
      refine (rfail_any g r bad _ HR.out).mono ?_
      rintro q w3 ⟨rfl, h3, h4⟩
      have H3 := Lib.hid h3
      clear h3
      go_wp2
      go_ret
      unfold Ahead
      rw [HX.out]
      exact ⟨rfl, H3.out, h4⟩
end Go.Proofs.YthknahghmlfegaaDoor
