/-
  Read, Size.
-/
import Derived.Test.YtbpodclodflgfaaKK
namespace Go.Proofs.Ytbpodclodflgfaa
open Go Go.RowKit
namespace Dk
theorem over_le (f : Nat) : ∀ (q : List Piece) (s : B), s.length ≤ 16777216 → (∀ p ∈ q, p.at_ + p.s.length ≤ 16777216) → (over f s q).length ≤ 16777216
  | [], s, h, _ => h
  | p :: q, s, h, hq => by
    rw [over_cons]
    refine over_le f q _ ?_ (fun x hx => hq x (by simp [hx]))
    split
    · rw [put_length]; have := hq p (by simp); omega
    · exact h
theorem Good.over {D : Disk} (h : Good D) (f j : Nat) (hf : f < 12) : (Dk.over f (D.last f) (D.queue.take j)).length ≤ 16777216 :=
  over_le f _ _ (h.len f hf) fun p hp => (h.pcs p (List.mem_of_mem_take hp)).2.2
theorem Good.read {D : Disk} (h : Good D) (f : Nat) (hf : f < 12) : (Dk.read D f).length ≤ 16777216 :=
  over_le f _ _ (h.len f hf) fun p hp => (h.pcs p hp).2.2
end Dk
theorem conv_own {w : World} {base : Nat} {v : Value} {l : List UInt8} (h : w.ownsRow base 5 1 v l.length (bv l)) : (convert 46 9 v).run Try.prog w = .ok (.string (enc l)) w := by
  rcases row_of h with ⟨rfl, rfl⟩ | ⟨g, cap, rfl, _, hg⟩
  · exact run_convert_bytes_nil (P := Try.prog) w 46 5 Try.underlying46 Try.underlying5 0 0 9 Try.underlying9
  · exact run_convert_bytes_back (P := Try.prog) w 46 9 5 ⟨g, 0, none⟩ cap l Try.underlying46 Try.underlying5 Try.underlying9 (fun j hj => h.cells (g := g) rfl j _ (by unfold bv; rw [List.getElem?_map, List.getElem?_eq_getElem hj]; rfl))
set_option maxHeartbeats 4000000 in
set_option maxRecDepth 100000 in
theorem size_file (g : Nat) (vs : Nat → Value) (q k : Value) (D : Dk.Disk) (f : Nat) (hf : f < 12) (w : World) (h : DiskV w g vs q k D) :
    Calls Try.prog 19 #[.pointer (some ⟨g, 0, none⟩), .int .i64 (f : Int)] w fun e w' => e = .returned (.int .i64 ((Dk.read D f).length : Int)) ∧ Below w.heap.size w w' := by
  have C := Lib.hid (isFile_any (f : Int) w)
  have hif : Dk.isFile (f : Int) = true := by unfold Dk.isFile; simp; omega
  rw [hif] at C
  have c12 := h.cq
  have cf := h.cfile f hf
  have hgood := Lib.hid h.good
  obtain ⟨qa, gq, qc, rfl, hqa, hql, hqc⟩ := h.qshape
  obtain ⟨pa, n0, cc, hv⟩ := own_slice (h.file f hf)
  have hn0 : n0 = (D.last f).length := by
    rcases row_of (h.file f hf) with ⟨h1, h2⟩ | ⟨g', cap', h1, _⟩
    · rw [hv] at h1; injection h1 with _ h3 _; rw [h3, h2]; rfl
    · rw [hv] at h1; injection h1
  rw [hv] at cf
  have HR := Lib.hid (show (Dk.read D f) = Dk.over f (D.last f) (D.queue.take D.queue.length) from by rw [List.take_length]; rfl)
  have H := Lib.hid h
  have HA := Lib.hid hqa
  have hlt := h.lt
  clear h hqa hv hif
  obtain ⟨m, hm⟩ : ∃ m, D.queue.length = m := ⟨_, rfl⟩
  rw [hm] at HA H c12 hql HR
  have HM := Lib.hid hm
  have HN0 := Lib.hid hn0
  clear hm hn0
  go_enter Try.func19, Try.ntmps19
  go_wp2_with (go_at_call 46; refine C.out.mono ?_; rintro _ w1 ⟨rfl, rfl⟩)
  go_loopw [5, 7, 24] (fun x5 x7 i wr => ∃ (j z : Nat), i = .int .i64 j ∧ j ≤ m ∧ x5 = .int .i64 (z : Int) ∧ z ≤ 16777216 ∧ Hid (z = (Dk.over f (D.last f) (D.queue.take j)).length) ∧ Hid (Below w.heap.size w wr)) (fun _ _ i _ => m - (intOf i).toNat)
  case atStart => exact ⟨0, n0, rfl, Nat.zero_le _, rfl, by rw [HN0.out]; exact hgood.out.len f hf, HN0.out, Below.refl _ _⟩
  case round =>
    obtain ⟨j, z, rfl, hj, rfl, hz, hZ, hB⟩ := hrel
    by_cases hlt : j < m
    · obtain ⟨p, hp⟩ : ∃ p, D.queue[j]? = some p := ⟨_, List.getElem?_eq_getElem (by rw [HM.out]; exact hlt)⟩
      obtain rfl := HA.out (by omega)
      obtain ⟨c0, c1, c2⟩ := (H.out.below hB.out).piece (j := j) (p := p) hp
      have hpg := hgood.out.pcs p (List.mem_of_getElem? hp)
      have HP := Lib.hid hp
      have HBA := Lib.hid (fun o : Obj => below_alloc hB.out (Nat.le_refl _) o)
      obtain ⟨s, hs⟩ : ∃ s, enc p.s = s := ⟨_, rfl⟩
      have hs2 : s.size = p.s.length := by rw [← hs, Lib.size_eq]; rfl
      rw [hs] at c2
      obtain ⟨at_, hat⟩ : ∃ a, p.at_ = a := ⟨_, rfl⟩
      rw [hat] at c1
      have hb1 : at_ + s.size ≤ 16777216 := by rw [hs2, ← hat]; exact hpg.2.2
      have HS2 := Lib.hid hs2
      have HAT := Lib.hid hat
      by_cases hpf : p.f = f
      · have HF := Lib.hid (show (Dk.over f (D.last f) (D.queue.take (j + 1))).length = max z (at_ + s.size) from by
          rw [Dk.over_snoc f _ _ j p hp, if_pos hpf, Dk.put_length, hZ.out, hs2, hat])
        rw [hpf] at c0
        clear hp hpg hpf hs hs2 hat
        by_cases hc : at_ + s.size ≤ z
        · go_wp2
          all_goals try (exfalso; omega)
          all_goals
            go_roundw
            case rel => exact ⟨j + 1, z, by go_num, by omega, by first | rfl | go_num, hz, by rw [HF.out]; show _ = _; omega, HBA.out _⟩
            case measure => simp [intOf]; omega
        · go_wp2
          all_goals try (exfalso; omega)
          all_goals
            go_roundw
            case rel => exact ⟨j + 1, at_ + s.size, by go_num, by omega, by first | rfl | go_num, hb1, by rw [HF.out]; show _ = _; omega, HBA.out _⟩
            case measure => simp [intOf]; omega
      · have HF := Lib.hid (show (Dk.over f (D.last f) (D.queue.take (j + 1))).length = z from by
          rw [Dk.over_snoc f _ _ j p hp, if_neg hpf, hZ.out])
        obtain ⟨F, hF⟩ : ∃ F, p.f = F := ⟨_, rfl⟩
        rw [hF] at c0 hpf
        have e1 : ((F : Int) == (f : Int)) = false := by rw [beq_eq_false_iff_ne]; omega
        have e2 : ¬ ((F : Int) = (f : Int)) := by omega
        clear hp hpg hF hpf hs hs2 hat
        go_wp2
        go_roundw
        case rel => exact ⟨j + 1, z, by go_num, by omega, rfl, hz, HF.out.symm, HBA.out _⟩
        case measure => simp [intOf]; omega
    · obtain rfl : j = m := by omega
      have HE := Lib.hid (show ((z : Nat) : Int) = ((Dk.read D f).length : Int) from by rw [HR.out, hZ.out])
      go_wp2
      go_ret
      exact ⟨ret_int HE.out, hB.out⟩
set_option maxHeartbeats 1000000 in
set_option maxRecDepth 100000 in
theorem size_any (g : Nat) (D : Dk.Disk) (f : Int) (w : World) (h : DiskAt w g D) :
    Calls Try.prog 19 #[.pointer (some ⟨g, 0, none⟩), .int .i64 f] w fun e w' => e = .returned (.int .i64 (Dk.size D f : Int)) ∧ Below w.heap.size w w' := by
  obtain ⟨vs, q, k, h⟩ := h
  by_cases hf : 0 ≤ f ∧ f ≤ 11
  · obtain ⟨fn, rfl⟩ : ∃ n : Nat, f = (n : Int) := ⟨f.toNat, by omega⟩
    have e : Dk.size D (fn : Int) = (Dk.read D fn).length := by unfold Dk.size; rw [if_pos hf]; rfl
    rw [e]
    exact size_file g vs q k D fn (by omega) w h
  · have e : Dk.size D f = 0 := by unfold Dk.size; rw [if_neg hf]
    rw [e]
    have C := Lib.hid (isFile_any f w)
    have hif : Dk.isFile f = false := by unfold Dk.isFile; simp; omega
    rw [hif] at C
    clear h hif
    go_enter Try.func19, Try.ntmps19
    go_wp2_with (go_at_call 46; refine C.out.mono ?_; rintro _ w1 ⟨rfl, rfl⟩)
    go_ret
    exact ⟨rfl, Below.refl _ _⟩
end Go.Proofs.Ytbpodclodflgfaa
