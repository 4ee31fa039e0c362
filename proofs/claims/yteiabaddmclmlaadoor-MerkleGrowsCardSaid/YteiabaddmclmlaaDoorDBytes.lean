/-
  bytes: the words of a state, written out.
-/
import Derived.Test.YteiabaddmclmlaaDoorDProc
import Derived.Laws.IdiomStrings
import Derived.Laws.BytesArg
namespace Go.Proofs.YteiabaddmclmlaaDoor
open Go Go.RowKit Go.Shelf
/-- A slice of an array of bytes, from a place on. -/
theorem cutAll (T : TypeId) (N : Nat) (ha : Tryd.prog.arrayLen T = N) (he : Tryd.prog.elem T = 5) (hu : Tryd.prog.underlying T = some (.array N 5)) (g : Nat) (w : World) (hN : 0 < N) :
    (Instr.sliceAt T (.pointer (some ⟨g, 0, none⟩)) none none none).run Tryd.prog w = .ok (.slice (some ⟨g, 0, none⟩) N N) w := by
  rw [run_sliceAt_array_all w _ ⟨g, 0, none⟩ (by rw [ha, he]; exact hu), ha, he]
  have hs : (sizeOf 5).run Tryd.prog w = .ok 1 w := Tryd.sizeOf5 w
  rw [hs]
  simp [slicedAt, Result.andThen, show ¬ N = 0 from by omega]
  unfold Addr.add
  split <;> simp_all
theorem cutFrom (T : TypeId) (N : Nat) (ha : Tryd.prog.arrayLen T = N) (he : Tryd.prog.elem T = 5) (hu : Tryd.prog.underlying T = some (.array N 5)) (g k : Nat) (w : World) (n : Int) (hn : n = (k : Int)) (hk : k < N) :
    (Instr.sliceAt T (.pointer (some ⟨g, 0, none⟩)) (some (.int .i64 n)) none none).run Tryd.prog w = .ok (.slice (some ⟨g, k, none⟩) (N - k) (N - k)) w := by
  subst hn
  rw [run_sliceAt_array_l w _ ⟨g, 0, none⟩ (by rw [ha, he]; exact hu) .i64 k (by omega) (by rw [ha]; omega), ha, he]
  have hs : (sizeOf 5).run Tryd.prog w = .ok 1 w := Tryd.sizeOf5 w
  rw [hs]
  simp [slicedAt, Result.andThen, show ¬ N = k from by omega]
  unfold Addr.add
  split <;> simp_all
theorem cut32 (g k : Nat) (w : World) (n : Int) (hn : n = (k : Int)) (hk : k < 32) :
    (Instr.sliceAt 74 (.pointer (some ⟨g, 0, none⟩)) (some (.int .i64 n)) none none).run Tryd.prog w = .ok (.slice (some ⟨g, k, none⟩) (32 - k) (32 - k)) w :=
  cutFrom _ 32 (by kernel_rfl) (by kernel_rfl) Tryd.underlying74 g k w n hn hk
theorem all32 (g : Nat) (w : World) : (Instr.sliceAt 74 (.pointer (some ⟨g, 0, none⟩)) none none none).run Tryd.prog w = .ok (.slice (some ⟨g, 0, none⟩) 32 32) w :=
  cutAll _ 32 (by kernel_rfl) (by kernel_rfl) Tryd.underlying74 g w (by omega)
theorem all64 (g : Nat) (w : World) : (Instr.sliceAt 51 (.pointer (some ⟨g, 0, none⟩)) none none none).run Tryd.prog w = .ok (.slice (some ⟨g, 0, none⟩) 64 64) w :=
  cutAll _ 64 (by kernel_rfl) (by kernel_rfl) Tryd.underlying51 g w (by omega)
theorem add_plain0 (g j : Nat) : (⟨g, 0, none⟩ : Addr).add j = ⟨g, j, none⟩ := by
  unfold Addr.add
  split <;> simp_all
theorem conv_blk {w : World} {g n cap : Nat} {t : TypeId} {l : List UInt8} (h : Blk w g t (bv l)) (hn : l.length = n) :
    (convert 43 9 (.slice (some ⟨g, 0, none⟩) n cap)).run Tryd.prog w = .ok (.string ⟨l.toArray⟩) w := by
  subst hn
  exact run_convert_bytes_back (P := Tryd.prog) w 43 9 5 ⟨g, 0, none⟩ cap l Tryd.underlying43 Tryd.underlying5 Tryd.underlying9 (fun j hj => by
    rw [add_plain0]
    exact h.cell (by unfold bv; rw [List.getElem?_map, List.getElem?_eq_getElem hj]; rfl))
theorem bv_four {A : List UInt8} {N k : Nat} (hA : A.length = 4 * k) (hk : 4 * k + 4 ≤ N) (x : Dg.W32) : splice (bv (A ++ List.replicate (N - 4 * k) 0)) (4 * k) (bv (Dg.be32 x)) = bv ((A ++ Dg.be32 x) ++ List.replicate (N - 4 * (k + 1)) 0) := by
  rw [bv_splice]
  congr 1
  unfold splice
  rw [List.take_append_of_le_length (by omega), List.take_of_length_le (by omega), Dg.be32_length, List.drop_append, List.drop_of_length_le (by omega), List.drop_replicate, List.append_assoc]
  rw [show N - 4 * k - (4 * k + 4 - A.length) = N - 4 * (k + 1) from by omega]
  rfl
def outAt (s : Dg.St) (k : Nat) : List UInt8 := (s.list.take k).flatMap Dg.be32
theorem outAt_len (s : Dg.St) (k : Nat) (hk : k ≤ 8) : (outAt s k).length = 4 * k := by
  have h : ∀ l : List Dg.W32, (l.flatMap Dg.be32).length = 4 * l.length := fun l => by
    induction l with
    | nil => rfl
    | cons x l ih => rw [List.flatMap_cons, List.length_append, ih, Dg.be32_length, List.length_cons]; omega
  unfold outAt
  rw [h, List.length_take]
  show 4 * min k 8 = _
  omega
theorem outAt_next (s : Dg.St) (k : Nat) (hk : k < 8) : outAt s (k + 1) = outAt s k ++ Dg.be32 (s.list.getD k 0) := by
  unfold outAt
  have hk' : k < s.list.length := hk
  rw [List.take_succ_eq_append_getElem hk', List.flatMap_append]
  simp [hk']
set_option maxHeartbeats 4000000 in
set_option maxRecDepth 100000 in
theorem bytes_any (s : Dg.St) (gs : Nat) (w : World) (hS : Blk w gs 49 (wv s.list)) :
    Calls Tryd.prog 54 #[.pointer (some ⟨gs, 0, none⟩)] w fun e w' => e = .returned (.string ⟨s.bytes.toArray⟩) ∧ Below w.heap.size w w' := by
  have hgs := hS.lt
  have HS := Lib.hid hS
  clear hS
  obtain ⟨O, hO⟩ : ∃ O : ByteArray, (⟨s.bytes.toArray⟩ : ByteArray) = O := ⟨_, rfl⟩
  have HO := Lib.hid (show ∀ P : ByteArray → Prop, P ⟨s.bytes.toArray⟩ → P O from fun P h => by rw [← hO]; exact h)
  rw [hO]
  clear hO
  go_enter Tryd.func54, Tryd.ntmps54
  go_wp2_with fail
  go_loopw [7] (fun i wr => ∃ k : Nat, i = .int .i64 k ∧ k ≤ 8 ∧ Hid (Blk wr w.heap.size 74 (bv (outAt s k ++ List.replicate (32 - 4 * k) 0))) ∧ Hid (Below w.heap.size w wr)) (fun i _ => 8 - (intOf i).toNat)
  case atStart => exact ⟨0, rfl, by omega, Blk.made w (bv (List.replicate 32 0)).toArray 74, below_alloc (Below.refl _ _) (Nat.le_refl _) _⟩
  case round =>
    obtain ⟨k, rfl, hk, h1, h2⟩ := hrel
    by_cases hlt : k < 8
    · have cx := (HS.out.below h2.out).cell (wv_at (l := s.list) (show k < 8 from hlt))
      have hN := outAt_next s k hlt
      obtain ⟨x, hx⟩ : ∃ x, s.list.getD k 0 = x := ⟨_, rfl⟩
      rw [hx] at cx hN
      clear hx
      have HN := Lib.hid (show ∀ P : List UInt8 → Prop, P (outAt s k ++ Dg.be32 x) → P (outAt s (k + 1)) from fun P h => by rw [hN]; exact h)
      clear hN
      have hcut := fun w' : World => cut32 w.heap.size (4 * k) w' (4 * (k : Int)) (by omega) (by omega)
      have hL := outAt_len s k hk
      go_wp2_with fail
      go_quiet (fail)
      go_wp2_with fail
      refine (putWord_any x w.heap.size (4 * k) (32 - 4 * k) (32 - 4 * k) 74 (bv (outAt s k ++ List.replicate (32 - 4 * k) 0)) _ (by omega) (h1.out.drews _) (by rw [bv_length, List.length_append, hL, List.length_replicate]; omega)).mono ?_
      rintro e w1 ⟨rfl, h3, h4⟩
      rw [bv_four hL (by omega)] at h3
      have H3 := Lib.hid h3
      have H4 := Lib.hid (show Below w.heap.size w w1 from (below_drewN h2.out _).trans (Gr.below h4 h2.out.size (Nat.le_refl _)))
      clear h3 h4
      go_wp2
      go_roundw
      case rel => exact ⟨k + 1, rfl, by omega, HN.out (fun l => Blk w1 w.heap.size 74 (bv (l ++ List.replicate (32 - 4 * (k + 1)) 0))) H3.out, H4.out⟩
      case measure => simp [intOf]; omega
    · obtain rfl : k = 8 := by omega
      have hb : Blk wr w.heap.size 74 (bv s.bytes) := by
        have : bv (outAt s 8 ++ List.replicate (32 - 4 * 8) 0) = bv s.bytes := by
          show bv (outAt s 8 ++ []) = _
          rw [List.append_nil]; rfl
        rw [← this]; exact h1.out
      have hall := all32 w.heap.size wr
      have hcv := conv_blk (cap := 32) hb (Dg.bytes_length s)
      have H2 := h2
      clear hb h1
      go_wp2
      go_ret
      exact ⟨HO.out (fun o => Ending.returned (.string ⟨s.bytes.toArray⟩) = .returned (.string o)) rfl, H2.out⟩
end Go.Proofs.YteiabaddmclmlaaDoor
