/-
  header.Write.
-/
import Derived.Test.YtliadekcbkedmaaDoorFWf
namespace Go.Proofs.YtliadekcbkedmaaDoor
open Go Go.RowKit Go.Shelf
/-- Read as a Builder of its own. -/
theorem BAt.bld {w : World} {B b : Nat} {v : Value} {l : List UInt8} (h : BAt w B b v l) : Bld b b l w := by
  obtain ⟨p, hp, h2⟩ := h.at_
  have h3 := h.own
  have hb := h.lo
  have h4 : w.ownsRowF b 5 1 v (Lib.byteCells l).length (Lib.byteCells l) := by
    refine ⟨h3.1, ?_⟩
    rcases h3.2 with h | ⟨g, cap, cur, fz, a1, a2, a3⟩
    · exact .inl h
    · exact .inr ⟨g, cap, cur, fz, a1, by omega, a3⟩
  rcases hp with rfl | rfl
  · exact .inl ⟨Nat.le_refl _, v, h2, h4, h.ne⟩
  · exact .inr ⟨Nat.le_refl _, v, h2, h4, h.ne⟩
theorem named_to {l : List UInt8} {b : Bool} (h : Hd.named l = b) (w : World) (hs : l.length ≤ 1000000) :
    Calls Tryd.prog 45 #[.string ⟨l.toArray⟩] w fun e w' => e = .returned (.bool b) ∧ w = w' := by
  rw [← h]; exact named_any ⟨l.toArray⟩ w (mk_size_le (by omega))
namespace Hd
def wriF (X : List Fd) (k : Nat) : List UInt8 := (((X.take k).filter fun f => named f.1).map writeField).flatten
theorem wriF_succ {X : List Fd} {k : Nat} {f : Fd} (h : X[k]? = some f) : wriF X (k + 1) = wriF X k ++ (if named f.1 = true then writeField f else []) := by
  unfold wriF
  rw [List.take_add_one, h, List.filter_append, List.map_append, List.flatten_append]
  congr 1
  by_cases hn : named f.1 = true
  · rw [if_pos hn]; simp [hn]
  · rw [if_neg hn]; simp [hn]
theorem wriF_len {X : List Fd} (h : ∀ f ∈ X, f.2.length ≤ 100000) : ∀ k, (wriF X k).length ≤ 201000 * k
  | 0 => by simp [wriF]
  | k + 1 => by
    have ih := wriF_len h k
    cases e : X[k]? with
    | none =>
      have : wriF X (k + 1) = wriF X k := by unfold wriF; rw [List.take_add_one, e]; simp
      rw [this]; omega
    | some f =>
      rw [wriF_succ e, List.length_append]
      split
      · rename_i hn
        have h1 := writeField_len f
        have h2 := h f (List.mem_of_getElem? e)
        have h3 := (named_of hn).1
        omega
      · simp; omega
end Hd
set_option maxHeartbeats 1000000 in
set_option maxRecDepth 100000 in
theorem write_any (X : List Hd.Fd) (n cap : Nat) (xa : Option Addr) (xb off : Nat) (w : World) (hX : PL w xa xb off X) (hn : X.length = n) (hN : n ≤ 1000) (hE : ∀ p ∈ X, p.1.length ≤ 100000 ∧ p.2.length ≤ 100000) (hm : MaxAt w) :
    Calls Tryd.prog 20 #[.slice xa n cap] w fun e w' => e = .returned (.string ⟨(Hd.write X).toArray⟩) ∧ Below w.heap.size w w' := by
  have hR : Hd.write X = Hd.wriF X n := by
    unfold Hd.write Hd.wriF
    rw [List.take_of_length_le (by omega)]
  rw [hR]
  have HX := Lib.hid hX
  have HNn := Lib.hid hn
  have HE := Lib.hid hE
  have HM := Lib.hid hm
  have hpos := hm.pos
  have HL := Lib.hid (Hd.wriF_len fun f hf => (hE f hf).2)
  obtain ⟨b, hb⟩ : ∃ b, w.heap.size = b := ⟨_, rfl⟩
  have HS := Lib.hid hb
  obtain ⟨w1, hw1⟩ : ∃ w1, w.alloc (.cells #[.pointer none, .slice none 0 0] 61) = w1 := ⟨_, rfl⟩
  have hb1 : Below w.heap.size w w1 := by rw [← hw1]; exact below_new w _
  have hk1 : w1.heap[b]? = some (.cells #[.pointer none, .slice none 0 0] 61 (0, 0)) := by rw [← hw1, ← hb]; exact World.alloc_heap_new w _
  have hs1 : w1.heap.size = b + 1 := by rw [← hw1, alloc_size, hb]
  have HI := Lib.hid (show BAt w1 (b + 1) b (.slice none 0 0) (Hd.wriF X 0) ∧ Fx w1 w1 (b + 1) b from ⟨by simpa [Hd.wriF] using BAt.fresh hk1, Fx.refl _ _ _⟩)
  have HB1 := Lib.hid hb1
  have HS1 := Lib.hid hs1
  clear hX hn hE hm hR hb1 hk1 hs1
  go_enter Tryd.func20, Tryd.ntmps20
  go_wp2
  go_loopw [5, 8] (fun _ i wr => ∃ (k : Nat) (v : Value), i = .int .i64 k ∧ k ≤ n ∧ Hid (BAt wr (b + 1) b v (Hd.wriF X k) ∧ Fx w1 wr (b + 1) b)) (fun _ i _ => n - (intOf i).toNat)
  case atStart => exact ⟨0, _, rfl, Nat.zero_le _, HI.out⟩
  case round =>
    obtain ⟨k, v, rfl, hk, hI⟩ := hrel
    clear HI hb
    have hbb : Below w.heap.size w wr := HB1.out.trans (hI.out.2.below (by have := HS.out; omega) (by omega))
    have hsz : b + 1 ≤ wr.heap.size := by have := hI.out.2.size; have := HS1.out; omega
    have hXr : PL wr xa xb off X := HX.out.new hbb
    by_cases hlt : k < n
    · obtain ⟨p, hp⟩ : ∃ p, X[k]? = some p := ⟨_, List.getElem?_eq_getElem (by rw [HNn.out]; exact hlt)⟩
      obtain rfl := hXr.at_ (by rw [HNn.out]; omega)
      obtain ⟨d0, d1⟩ := hXr.c k p hp
      have hpl := HE.out p (List.mem_of_getElem? hp)
      have hU := Hd.wriF_succ hp
      have hkl := HL.out k
      obtain ⟨N, V⟩ := p
      simp only at d0 d1 hpl hU
      have hbn := below_new wr (.cells #[.string ⟨N.toArray⟩, .string ⟨V.toArray⟩] 35)
      have HBn := Lib.hid (hI.out.1.new hbn)
      have HFn := Lib.hid (hI.out.2.trans (Fx.of_below hbn hsz))
      cases ht : Hd.named N with
      | false =>
        have HU : Hid (Hd.wriF X (k + 1) = Hd.wriF X k) := Lib.hid (by rw [hU, ht]; simp)
        have HT := Lib.hid (fun W => named_to ht W (by omega))
        clear hU hp ht hpl hbn hbb
        go_wp2_with (go_at_call 45; with_reducible refine (HT.out _).mono ?_; rintro e w' ⟨rfl, rfl⟩)
        go_roundw
        case rel => exact ⟨k + 1, v, by go_num, by omega, by rw [HU.out]; exact HBn.out, HFn.out⟩
        case measure => simp [intOf]; omega
      | true =>
        have HU : Hid (Hd.wriF X (k + 1) = Hd.wriF X k ++ Hd.writeField (N, V)) := Lib.hid (by rw [hU, ht]; simp)
        have HT := Lib.hid (fun W => named_to ht W (by omega))
        have hNl := (Hd.named_of ht).1
        have hMn : MaxAt (wr.alloc (.cells #[.string ⟨N.toArray⟩, .string ⟨V.toArray⟩] 35)) := HM.out.below (below_to hbb (Nat.le_refl _) hbn) hpos
        have HW := Lib.hid (writeField_any (b + 1) b v (Hd.wriF X k) N V _ HBn.out hNl hpl.2 (by omega) hMn (by rw [alloc_size]; omega) (by rw [alloc_size]; omega))
        clear hU hp ht hpl hbn hbb hNl hMn
        go_wp2_with (first
          | (go_at_call 45; with_reducible refine (HT.out _).mono ?_; rintro e w' ⟨rfl, rfl⟩)
          | (go_at_call 46; with_reducible refine HW.out.mono ?_; rintro e w2 ⟨rfl, v2, hA2, hF2⟩; have HA2 := Lib.hid hA2; have HF2 := Lib.hid (HFn.out.trans hF2); clear hA2 hF2))
        go_roundw
        case rel => exact ⟨k + 1, v2, by go_num, by omega, by rw [HU.out]; exact HA2.out, HF2.out⟩
        case measure => simp [intOf]; omega
    · obtain rfl : k = n := by omega
      have HBB := Lib.hid hbb
      clear hbb
      go_wp2_with (go_at_call 44; with_reducible refine (str_any b b _ _ hI.out.1.bld (by omega)).mono ?_; rintro e w2 ⟨rfl, hB2, -⟩)
      go_ret
      exact ⟨rfl, HBB.out.trans (by rw [HS.out]; exact hB2)⟩
end Go.Proofs.YtliadekcbkedmaaDoor
