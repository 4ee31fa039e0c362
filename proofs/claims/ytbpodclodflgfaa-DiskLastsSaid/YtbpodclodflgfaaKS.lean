/-
  Copy, Read.
-/
import Derived.Test.YtbpodclodflgfaaKN
import Derived.Test.YtbpodclodflgfaaKL
namespace Go.Proofs.Ytbpodclodflgfaa
open Go Go.RowKit
set_option maxHeartbeats 1000000 in
set_option maxRecDepth 100000 in
theorem read_file (g : Nat) (vs : Nat → Value) (q k : Value) (D : Dk.Disk) (hd : D.down = false) (f : Nat) (hf : f < 12) (w : World) (h : DiskV w g vs q k D) :
    Calls Try.prog 23 #[.pointer (some ⟨g, 0, none⟩), .int .i64 (f : Int)] w fun e w' => e = .returned (.tuple #[.string (enc (Dk.read D f)), .int .i64 0]) ∧ Below w.heap.size w w' := by
  have C := Lib.hid (isFile_any (f : Int) w)
  have hif : Dk.isFile (f : Int) = true := by unfold Dk.isFile; simp; omega
  rw [hif] at C
  have c12 := h.cq
  have c13 := h.cdown
  rw [hd] at c13
  have cf := h.cfile f hf
  have hgood := Lib.hid h.good
  have CB := Lib.hid (cloneB_any (vs f) (D.last f) w (h.file f hf) (Nat.le_trans (h.good.len f hf) (by omega)))
  obtain ⟨qa, gq, qc, rfl, hqa, hql, hqc⟩ := h.qshape
  obtain ⟨V, hV⟩ : ∃ V, vs f = V := ⟨_, rfl⟩
  rw [hV] at cf CB
  have HR := Lib.hid (show (Dk.read D f) = Dk.over f (D.last f) (D.queue.take D.queue.length) from by rw [List.take_length]; rfl)
  have H := Lib.hid h
  have HA := Lib.hid hqa
  have hlt := h.lt
  clear h hqa hV hif hd
  obtain ⟨m, hm⟩ : ∃ m, D.queue.length = m := ⟨_, rfl⟩
  rw [hm] at HA H c12 hql HR
  have HM := Lib.hid hm
  have hne0 : g ≠ w.heap.size := by omega
  have KEEP := Lib.hid (fun (w1 : World) (hb : Below w.heap.size w w1) => show w1.cell? ⟨g, 12, none⟩ = some (.slice qa m qc) from (H.out.below hb).cq)
  clear hm
  go_enter Try.func23, Try.ntmps23
  go_wp2_with (first | (go_at_call 46; refine C.out.mono ?_; rintro _ w1 ⟨rfl, rfl⟩) | (go_at_call 33; refine CB.out.mono ?_; rintro _ w2 ⟨v2, rfl, ho2, hb2⟩; have cc12 := KEEP.out w2 hb2; have HO2 := Lib.hid ho2; have HB2 := Lib.hid hb2; clear ho2 hb2))
  go_loopw [6, 8, 29] (fun x6 x8 i wr => ∃ (j : Nat) (v : Value), i = .int .i64 j ∧ j ≤ m ∧ x6 = v ∧ Hid (wr.ownsRow w.heap.size 5 1 v (Dk.over f (D.last f) (D.queue.take j)).length (bv (Dk.over f (D.last f) (D.queue.take j)))) ∧ Hid (Below w.heap.size w wr)) (fun _ _ i _ => m - (intOf i).toNat)
  case atStart => exact ⟨0, v2, rfl, Nat.zero_le _, rfl, HO2.out, HB2.out⟩
  case round =>
    obtain ⟨j, v, rfl, hj, rfl, hO, hB⟩ := hrel
    by_cases hlt2 : j < m
    · obtain ⟨p, hp⟩ : ∃ p, D.queue[j]? = some p := ⟨_, List.getElem?_eq_getElem (by rw [HM.out]; exact hlt2)⟩
      obtain rfl := HA.out (by omega)
      obtain ⟨c0, c1, c2⟩ := (H.out.below hB.out).piece (j := j) (p := p) hp
      have hpg := hgood.out.pcs p (List.mem_of_getElem? hp)
      obtain ⟨s, hs⟩ : ∃ s, enc p.s = s := ⟨_, rfl⟩
      have hs2 : s.data.toList = p.s := by rw [← hs]; rfl
      rw [hs] at c2
      obtain ⟨at_, hat⟩ : ∃ a, p.at_ = a := ⟨_, rfl⟩
      rw [hat] at c1
      have hb1 : at_ + s.size ≤ 16777216 := by rw [Lib.size_eq s, hs2, ← hat]; exact hpg.2.2
      have HBA := Lib.hid (fun o : Obj => below_alloc hB.out (Nat.le_refl _) o)
      by_cases hpf : p.f = f
      · have HF := Lib.hid (show Dk.over f (D.last f) (D.queue.take (j + 1)) = Dk.put (Dk.over f (D.last f) (D.queue.take j)) at_ s.data.toList from by
          rw [Dk.over_snoc f _ _ j p hp, if_pos hpf, hs2, hat])
        rw [hpf] at c0
        have CP := Lib.hid (fun o : Obj => put_any w.heap.size _ (Dk.over f (D.last f) (D.queue.take j)) at_ s (wr.alloc o) (World.ownsRow.alloc hO.out o) (Nat.le_trans hB.out.size (by rw [alloc_size]; omega)) (Nat.le_trans (hgood.out.over f j hf) (by omega)) (by omega) (by omega))
        clear hp hpg hpf hs hs2 hat
        go_wp2_with (go_at_call 48; refine (CP.out _).mono ?_; rintro _ w3 ⟨v3, rfl, ho3, hg3, hs3⟩; have HO3 := Lib.hid ho3; have HG3 := Lib.hid hg3; clear ho3 hg3 hs3)
        go_roundw
        case rel => exact ⟨j + 1, v3, by go_num, by omega, rfl, by rw [HF.out]; exact HO3.out, (HBA.out _).trans ⟨HG3.out.os, HG3.out.tape, HG3.out.output, HG3.out.size, fun i hi => HG3.out.block i (by rw [alloc_size]; have := hB.out.size; omega) (fun e => by have := (World.ownsRow.lt hO.out i e.symm).1; omega)⟩⟩
        case measure => simp [intOf]; omega
      · have HF := Lib.hid (show Dk.over f (D.last f) (D.queue.take (j + 1)) = Dk.over f (D.last f) (D.queue.take j) from by
          rw [Dk.over_snoc f _ _ j p hp, if_neg hpf])
        obtain ⟨F, hF⟩ : ∃ F, p.f = F := ⟨_, rfl⟩
        rw [hF] at c0 hpf
        have e1 : ((F : Int) == (f : Int)) = false := by rw [beq_eq_false_iff_ne]; omega
        have e2 : ¬ ((F : Int) = (f : Int)) := by omega
        clear hp hpg hF hpf hs hs2 hat
        go_wp2
        go_roundw
        case rel => exact ⟨j + 1, _, by go_num, by omega, rfl, by rw [HF.out]; exact World.ownsRow.alloc hO.out _, HBA.out _⟩
        case measure => simp [intOf]; omega
    · obtain rfl : j = m := by omega
      have hcv := conv_own hO.out
      have HE := Lib.hid (show enc (Dk.over f (D.last f) (D.queue.take j)) = enc (Dk.read D f) from by rw [HR.out])
      obtain ⟨R, hR⟩ : ∃ R, enc (Dk.over f (D.last f) (D.queue.take j)) = R := ⟨_, rfl⟩
      rw [hR] at hcv HE
      clear hR
      go_wp2
      go_ret2
      exact ⟨by show Ending.returned (.tuple #[.string R, _]) = _; rw [HE.out]; rfl, hB.out⟩
set_option maxHeartbeats 1000000 in
set_option maxRecDepth 100000 in
theorem read_any (g : Nat) (D : Dk.Disk) (f : Int) (w : World) (h : DiskAt w g D) :
    Calls Try.prog 23 #[.pointer (some ⟨g, 0, none⟩), .int .i64 f] w fun e w' => e = .returned (.tuple #[.string (enc (Dk.readE D f).1), .int .i64 (Dk.ec (Dk.readE D f).2)]) ∧ Below w.heap.size w w' := by
  obtain ⟨vs, q, k, h⟩ := h
  have c13 := h.cdown
  by_cases hd : D.down = true
  · rw [Dk.down_read hd]
    rw [hd] at c13
    clear h
    go_enter Try.func23, Try.ntmps23
    go_wp2
    go_ret2
    exact ⟨rfl, Below.refl _ _⟩
  · have hd' : D.down = false := by simpa using hd
    by_cases hf : 0 ≤ f ∧ f ≤ 11
    · obtain ⟨fn, rfl⟩ : ∃ n : Nat, f = (n : Int) := ⟨f.toNat, by omega⟩
      have e : Dk.readE D (fn : Int) = (Dk.read D fn, .ok) := by unfold Dk.readE; rw [Dk.may_file hd' hf.1 hf.2]; rfl
      rw [e]
      exact read_file g vs q k D hd' fn (by omega) w h
    · have e : Dk.readE D f = ([], .arg) := by unfold Dk.readE; rw [Dk.may_arg hd' (by omega)]
      rw [e]
      rw [hd'] at c13
      have C := Lib.hid (isFile_any f w)
      have hif : Dk.isFile f = false := by unfold Dk.isFile; simp; omega
      rw [hif] at C
      clear h hif
      go_enter Try.func23, Try.ntmps23
      go_wp2_with (go_at_call 46; refine C.out.mono ?_; rintro _ w1 ⟨rfl, rfl⟩)
      go_ret2
      exact ⟨rfl, Below.refl _ _⟩
end Go.Proofs.Ytbpodclodflgfaa
