/-
  Write, whole.
  Read, Size.
  Flush, Cut, Turn.
  Cut.
-/
import Derived.Test.YtbelmadbjiiodaaKGe
namespace Go.Proofs.Ytbelmadbjiiodaa
open Go Go.RowKit
namespace Dk
theorem write_is (D : Disk) (h0 : 0 ≤ D.armed) (f at_ : Int) (s : B) : write D f at_ s = if D.down = true then (.down, D) else if D.armed = 1 then (.down, crash (writeB (tick D) f at_ s).2 D.keep) else writeB (tick D) f at_ s := by
  by_cases hd : D.down = true
  · rw [if_pos hd]; exact down_write hd f at_ s
  · rw [if_neg hd]
    have hd' : D.down = false := by simpa using hd
    have htd : (tick D).down = false := hd'
    unfold write comes
    by_cases ha : D.armed = 0
    · rw [if_pos (.inr ha), if_neg (by omega)]
      have : tick D = D := by
        obtain ⟨l, q, lo, d, a, ke⟩ := D
        simp only at ha
        subst ha
        rfl
      rw [this]
    · rw [if_neg (by simp [hd, ha])]
      by_cases h1 : D.armed = 1
      · rw [if_neg (by omega), if_pos h1]
        have ht : tick D = { D with armed := 0 } := by unfold tick; rw [if_neg ha, h1]; rfl
        have hcd : ∀ E ks, may (crash E ks) f = .down := fun E ks => may_down (by unfold crash; by_cases h : E.down = true <;> simp [h])
        simp only
        rw [writeB_up (tick D) htd, ht]
        unfold writeB
        by_cases hf : isFile f = true
        · by_cases h2 : at_ < 0
          · have hfit : fits at_ s = false := by unfold fits; simp; omega
            rw [if_pos hf, hf, hfit]
            simp [hcd, h2]
          · by_cases h3 : fits at_ s = true
            · rw [if_pos hf, hf, h3]
              simp [hcd, h2]
            · have h3' : fits at_ s = false := by simpa using h3
              rw [if_pos hf, hf, h3']
              simp [hcd, h2]
        · have hf' : isFile f = false := by simpa using hf
          rw [if_neg hf, hf']
          simp [hcd]
      · rw [if_pos (by omega), if_neg h1]
        have : tick D = { D with armed := D.armed - 1 } := by unfold tick; rw [if_neg ha]
        rw [this]
theorem isFile_iff (f : Int) : isFile f = true ↔ 0 ≤ f ∧ f ≤ 11 := by unfold isFile; simp
end Dk
set_option maxHeartbeats 2000000 in
set_option maxRecDepth 100000 in
theorem write_in (g : Nat) (vs : Nat → Value) (q k : Value) (D : Dk.Disk) (hd : D.down = false) (f at_ : Int) (h0 : -9223372036854775808 ≤ at_) (h1 : at_ ≤ 9223372036854775807) (s : ByteArray) (hs : s.size ≤ 1000000) (hq : D.queue.length + s.size ≤ 1000000) (w : World) (h : DiskV w g vs q k D) :
    Calls Try.prog 30 #[.pointer (some ⟨g, 0, none⟩), .int .i64 f, .int .i64 at_, .string s] w fun e w' => e = .returned (.int .i64 (Dk.ec (Dk.writeB D f at_ s.data.toList).1)) ∧ (∃ q', DiskV w' g vs q' k (Dk.writeB D f at_ s.data.toList).2) ∧ Mv g w w' := by
  rw [Dk.writeB_up D hd]
  have C := Lib.hid (isFile_any f w)
  by_cases hf : Dk.isFile f = true
  · obtain ⟨f0, f1⟩ := (Dk.isFile_iff f).1 hf
    rw [if_pos hf]
    by_cases ha : at_ < 0
    · rw [if_pos ha]
      rw [hf] at C
      have H := Lib.hid h
      clear h hf
      go_enter Try.func30, Try.ntmps30
      go_wp2_with (go_at_call 41; refine C.out.mono ?_; rintro _ w1 ⟨rfl, rfl⟩)
      go_ret
      exact ⟨rfl, ⟨_, H.out⟩, Mv.refl _ _⟩
    · rw [if_neg ha]
      by_cases hfit : Dk.fits at_ s.data.toList = true
      · rw [if_pos hfit]
        obtain ⟨fn, rfl⟩ : ∃ n : Nat, f = (n : Int) := ⟨f.toNat, by omega⟩
        obtain ⟨an, rfl⟩ : ∃ n : Nat, at_ = (n : Int) := ⟨at_.toNat, by omega⟩
        have hle : an + s.size ≤ 16777216 := by
          unfold Dk.fits at hfit
          rw [← Lib.size_eq s] at hfit
          simp at hfit
          omega
        exact write_loop g vs q k D fn an (by omega) s hle hq w h
      · rw [if_neg hfit]
        have hle : 16777216 - (s.size : Int) < at_ := by
          unfold Dk.fits at hfit
          rw [← Lib.size_eq s] at hfit
          simp at hfit
          omega
        have hna : ¬ at_ < 0 := ha
        rw [hf] at C
        have H := Lib.hid h
        clear h hf hfit
        go_enter Try.func30, Try.ntmps30
        go_wp2_with (go_at_call 41; refine C.out.mono ?_; rintro _ w1 ⟨rfl, rfl⟩)
        go_ret
        exact ⟨rfl, ⟨_, H.out⟩, Mv.refl _ _⟩
  · rw [if_neg hf]
    have hf' : Dk.isFile f = false := by simpa using hf
    rw [hf'] at C
    have H := Lib.hid h
    clear h hf hf'
    go_enter Try.func30, Try.ntmps30
    go_wp2_with (go_at_call 41; refine C.out.mono ?_; rintro _ w1 ⟨rfl, rfl⟩)
    go_ret
    exact ⟨rfl, ⟨_, H.out⟩, Mv.refl _ _⟩
set_option maxHeartbeats 2000000 in
set_option maxRecDepth 100000 in
theorem write_any (g : Nat) (D : Dk.Disk) (f at_ : Int) (h0 : -9223372036854775808 ≤ at_) (h1 : at_ ≤ 9223372036854775807) (s : ByteArray) (hs : s.size ≤ 1000000) (hq : D.queue.length + s.size ≤ 1000000) (w : World) (h : DiskAt w g D) :
    Calls Try.prog 10 #[.pointer (some ⟨g, 0, none⟩), .int .i64 f, .int .i64 at_, .string s] w fun e w' => e = .returned (.int .i64 (Dk.ec (Dk.write D f at_ s.data.toList).1)) ∧ DiskAt w' g (Dk.write D f at_ s.data.toList).2 ∧ Mv g w w' := by
  obtain ⟨vs, q, k, h⟩ := h
  rw [Dk.write_is D h.good.armed0]
  have c13 := h.cdown
  by_cases hd : D.down = true
  · rw [if_pos hd]
    rw [hd] at c13
    have H := Lib.hid h
    clear h
    go_enter Try.func10, Try.ntmps10
    go_wp2
    go_ret
    exact ⟨rfl, ⟨_, _, _, H.out⟩, Mv.refl _ _⟩
  · rw [if_neg hd]
    have hd' : D.down = false := by simpa using hd
    rw [hd'] at c13
    have C1 := Lib.hid (strikes_any g vs q k D w h)
    have C2 := Lib.hid (fun (w1 : World) (hv : DiskV w1 g vs q k (Dk.tick D)) => write_in g vs q k (Dk.tick D) hd' f at_ h0 h1 s hs hq w1 hv)
    obtain ⟨r, hr⟩ : ∃ r, Dk.writeB (Dk.tick D) f at_ s.data.toList = r := ⟨_, rfl⟩
    rw [hr] at C2 ⊢
    clear hr
    by_cases ha : D.armed = 1
    · rw [if_pos ha]
      have hk := h.keep (by omega)
      obtain ⟨ka, kb, kcap, hkv, hIR, hown⟩ := IR.of_own hk
      have hnf : 0 < D.keep.length → ¬ Foot w g kb := fun hp => h.not_keep (by omega) (hown hp)
      have hdec : decide (D.armed = 1) = true := by simpa using ha
      rw [hdec] at C1
      have KEY := Lib.hid (fun (w1 : World) (q' : Value) (h1 : DiskV w1 g vs q' k r.2) (hm : Mv g w w1) =>
        show Hid (DiskV w1 g vs q' k r.2) ∧ Hid (IR w1 ka kb 0 D.keep) ∧ Hid (0 < D.keep.length → ¬ Foot w1 g kb) ∧ w1.cell? ⟨g, 16, none⟩ = some (.slice ka D.keep.length kcap) from
          ⟨h1, hIR.mv hm hnf, fun hp hf => by
            rcases hm.foot kb hf with h2 | h2
            · exact hnf hp h2
            · have := hIR.lt hp; omega, by rw [← hkv]; exact h1.ckeep⟩)
      obtain ⟨n, hn⟩ : ∃ n, D.keep.length = n := ⟨_, rfl⟩
      have HN := Lib.hid hn
      rw [hn] at KEY
      clear h hk hIR hown hnf hkv hn hdec ha hd hd'
      go_enter Try.func10, Try.ntmps10
      go_wp2_with (first | (go_at_call 29; refine C1.out.mono ?_; rintro _ w1 ⟨rfl, hv1, hm1⟩; have HV1 := Lib.hid hv1; have HM1 := Lib.hid hm1; clear hv1 hm1) | (go_at_call 30; refine (C2.out w1 HV1.out).mono ?_; rintro _ w2 ⟨rfl, ⟨q2, hv2⟩, hm2⟩; obtain ⟨HV2, HI2, HF2, cc16⟩ := KEY.out w2 q2 hv2 (HM1.out.trans hm2); have HM2 := Lib.hid hm2; clear hv2 hm2) | (go_at_call 11; refine (crash_any g r.2 ka kb 0 n kcap D.keep w2 ⟨_, _, _, HV2.out⟩ HI2.out HN.out (fun hp => HF2.out (by rw [← HN.out]; exact hp))).mono ?_; rintro _ w3 ⟨⟨v2, rfl⟩, hv3, hm3⟩; have HV3 := Lib.hid hv3; have HM3 := Lib.hid hm3; clear hv3 hm3))
      go_ret
      exact ⟨rfl, HV3.out, (HM1.out.trans HM2.out).trans HM3.out⟩
    · rw [if_neg ha]
      have hdec : decide (D.armed = 1) = false := by simpa using ha
      rw [hdec] at C1
      clear h hdec ha hd hd'
      go_enter Try.func10, Try.ntmps10
      go_wp2_with (first | (go_at_call 29; refine C1.out.mono ?_; rintro _ w1 ⟨rfl, hv1, hm1⟩; have HV1 := Lib.hid hv1; have HM1 := Lib.hid hm1; clear hv1 hm1) | (go_at_call 30; refine (C2.out w1 HV1.out).mono ?_; rintro _ w2 ⟨rfl, ⟨q2, hv2⟩, hm2⟩; have HV2 := Lib.hid hv2; have HM2 := Lib.hid hm2; clear hv2 hm2))
      go_ret
      exact ⟨rfl, ⟨_, _, _, HV2.out⟩, HM1.out.trans HM2.out⟩
end Go.Proofs.Ytbelmadbjiiodaa
namespace Go.Proofs.Ytbelmadbjiiodaa
open Go Go.RowKit
namespace Dk
theorem over_le (f : Nat) : ∀ (q : List Piece) (s : B), s.length ≤ 16777216 → (∀ p ∈ q, p.at_ + p.s.length ≤ 16777216) → (over f s q).length ≤ 16777216
  | [], s, h, _ => h
  | p :: q, s, h, hq => by
    rw [over_cons]
    refine over_le f q _ ?_ (fun x hx => hq x (by simp [hx]))
    split
    · rw [put_length]; have := hq p (by simp); omega
    · exact h
theorem Good.over {D : Disk} (h : Good D) (f j : Nat) (hf : f < 12) : (Dk.over f (D.last f) (D.queue.take j)).length ≤ 16777216 :=
  over_le f _ _ (h.len f hf) fun p hp => (h.pcs p (List.mem_of_mem_take hp)).2.2
theorem Good.read {D : Disk} (h : Good D) (f : Nat) (hf : f < 12) : (Dk.read D f).length ≤ 16777216 :=
  over_le f _ _ (h.len f hf) fun p hp => (h.pcs p hp).2.2
end Dk
theorem conv_own {w : World} {base : Nat} {v : Value} {l : List UInt8} (h : w.ownsRow base 5 1 v l.length (bv l)) : (convert 43 9 v).run Try.prog w = .ok (.string (enc l)) w := by
  rcases row_of h with ⟨rfl, rfl⟩ | ⟨g, cap, rfl, _, hg⟩
  · exact run_convert_bytes_nil (P := Try.prog) w 43 5 Try.underlying43 Try.underlying5 0 0 9 Try.underlying9
  · exact run_convert_bytes_back (P := Try.prog) w 43 9 5 ⟨g, 0, none⟩ cap l Try.underlying43 Try.underlying5 Try.underlying9 (fun j hj => h.cells (g := g) rfl j _ (by unfold bv; rw [List.getElem?_map, List.getElem?_eq_getElem hj]; rfl))
set_option maxHeartbeats 4000000 in
set_option maxRecDepth 100000 in
theorem size_file (g : Nat) (vs : Nat → Value) (q k : Value) (D : Dk.Disk) (f : Nat) (hf : f < 12) (w : World) (h : DiskV w g vs q k D) :
    Calls Try.prog 17 #[.pointer (some ⟨g, 0, none⟩), .int .i64 (f : Int)] w fun e w' => e = .returned (.int .i64 ((Dk.read D f).length : Int)) ∧ Below w.heap.size w w' := by
  have C := Lib.hid (isFile_any (f : Int) w)
  have hif : Dk.isFile (f : Int) = true := by unfold Dk.isFile; simp; omega
  rw [hif] at C
  have c12 := h.cq
  have cf := h.cfile f hf
  have hgood := Lib.hid h.good
  obtain ⟨qa, gq, qc, rfl, hqa, hql, hqc⟩ := h.qshape
  obtain ⟨pa, n0, cc, hv⟩ := own_slice (h.file f hf)
  have hn0 : n0 = (D.last f).length := by
    rcases row_of (h.file f hf) with ⟨h1, h2⟩ | ⟨g', cap', h1, _⟩
    · rw [hv] at h1; injection h1 with _ h3 _; rw [h3, h2]; rfl
    · rw [hv] at h1; injection h1
  rw [hv] at cf
  have HR := Lib.hid (show (Dk.read D f) = Dk.over f (D.last f) (D.queue.take D.queue.length) from by rw [List.take_length]; rfl)
  have H := Lib.hid h
  have HA := Lib.hid hqa
  have hlt := h.lt
  clear h hqa hv hif
  obtain ⟨m, hm⟩ : ∃ m, D.queue.length = m := ⟨_, rfl⟩
  rw [hm] at HA H c12 hql HR
  have HM := Lib.hid hm
  have HN0 := Lib.hid hn0
  clear hm hn0
  go_enter Try.func17, Try.ntmps17
  go_wp2_with (go_at_call 41; refine C.out.mono ?_; rintro _ w1 ⟨rfl, rfl⟩)
  go_loopw [5, 7, 24] (fun x5 x7 i wr => ∃ (j z : Nat), i = .int .i64 j ∧ j ≤ m ∧ x5 = .int .i64 (z : Int) ∧ z ≤ 16777216 ∧ Hid (z = (Dk.over f (D.last f) (D.queue.take j)).length) ∧ Hid (Below w.heap.size w wr)) (fun _ _ i _ => m - (intOf i).toNat)
  case atStart => exact ⟨0, n0, rfl, Nat.zero_le _, rfl, by rw [HN0.out]; exact hgood.out.len f hf, HN0.out, Below.refl _ _⟩
  case round =>
    obtain ⟨j, z, rfl, hj, rfl, hz, hZ, hB⟩ := hrel
    by_cases hlt : j < m
    · obtain ⟨p, hp⟩ : ∃ p, D.queue[j]? = some p := ⟨_, List.getElem?_eq_getElem (by rw [HM.out]; exact hlt)⟩
      obtain rfl := HA.out (by omega)
      obtain ⟨c0, c1, c2⟩ := (H.out.below hB.out).piece (j := j) (p := p) hp
      have hpg := hgood.out.pcs p (List.mem_of_getElem? hp)
      have HP := Lib.hid hp
      have HBA := Lib.hid (fun o : Obj => below_alloc hB.out (Nat.le_refl _) o)
      obtain ⟨s, hs⟩ : ∃ s, enc p.s = s := ⟨_, rfl⟩
      have hs2 : s.size = p.s.length := by rw [← hs, Lib.size_eq]; rfl
      rw [hs] at c2
      obtain ⟨at_, hat⟩ : ∃ a, p.at_ = a := ⟨_, rfl⟩
      rw [hat] at c1
      have hb1 : at_ + s.size ≤ 16777216 := by rw [hs2, ← hat]; exact hpg.2.2
      have HS2 := Lib.hid hs2
      have HAT := Lib.hid hat
      by_cases hpf : p.f = f
      · have HF := Lib.hid (show (Dk.over f (D.last f) (D.queue.take (j + 1))).length = max z (at_ + s.size) from by
          rw [Dk.over_snoc f _ _ j p hp, if_pos hpf, Dk.put_length, hZ.out, hs2, hat])
        rw [hpf] at c0
        clear hp hpg hpf hs hs2 hat
        by_cases hc : at_ + s.size ≤ z
        · go_wp2
          all_goals try (exfalso; omega)
          all_goals
            go_roundw
            case rel => exact ⟨j + 1, z, by go_num, by omega, by first | rfl | go_num, hz, by rw [HF.out]; show _ = _; omega, HBA.out _⟩
            case measure => simp [intOf]; omega
        · go_wp2
          all_goals try (exfalso; omega)
          all_goals
            go_roundw
            case rel => exact ⟨j + 1, at_ + s.size, by go_num, by omega, by first | rfl | go_num, hb1, by rw [HF.out]; show _ = _; omega, HBA.out _⟩
            case measure => simp [intOf]; omega
      · have HF := Lib.hid (show (Dk.over f (D.last f) (D.queue.take (j + 1))).length = z from by
          rw [Dk.over_snoc f _ _ j p hp, if_neg hpf, hZ.out])
        obtain ⟨F, hF⟩ : ∃ F, p.f = F := ⟨_, rfl⟩
        rw [hF] at c0 hpf
        have e1 : ((F : Int) == (f : Int)) = false := by rw [beq_eq_false_iff_ne]; omega
        have e2 : ¬ ((F : Int) = (f : Int)) := by omega
        clear hp hpg hF hpf hs hs2 hat
        go_wp2
        go_roundw
        case rel => exact ⟨j + 1, z, by go_num, by omega, rfl, hz, HF.out.symm, HBA.out _⟩
        case measure => simp [intOf]; omega
    · obtain rfl : j = m := by omega
      have HE := Lib.hid (show ((z : Nat) : Int) = ((Dk.read D f).length : Int) from by rw [HR.out, hZ.out])
      go_wp2
      go_ret
      exact ⟨ret_int HE.out, hB.out⟩
set_option maxHeartbeats 1000000 in
set_option maxRecDepth 100000 in
theorem size_any (g : Nat) (D : Dk.Disk) (f : Int) (w : World) (h : DiskAt w g D) :
    Calls Try.prog 17 #[.pointer (some ⟨g, 0, none⟩), .int .i64 f] w fun e w' => e = .returned (.int .i64 (Dk.size D f : Int)) ∧ Below w.heap.size w w' := by
  obtain ⟨vs, q, k, h⟩ := h
  by_cases hf : 0 ≤ f ∧ f ≤ 11
  · obtain ⟨fn, rfl⟩ : ∃ n : Nat, f = (n : Int) := ⟨f.toNat, by omega⟩
    have e : Dk.size D (fn : Int) = (Dk.read D fn).length := by unfold Dk.size; rw [if_pos hf]; rfl
    rw [e]
    exact size_file g vs q k D fn (by omega) w h
  · have e : Dk.size D f = 0 := by unfold Dk.size; rw [if_neg hf]
    rw [e]
    have C := Lib.hid (isFile_any f w)
    have hif : Dk.isFile f = false := by unfold Dk.isFile; simp; omega
    rw [hif] at C
    clear h hif
    go_enter Try.func17, Try.ntmps17
    go_wp2_with (go_at_call 41; refine C.out.mono ?_; rintro _ w1 ⟨rfl, rfl⟩)
    go_ret
    exact ⟨rfl, Below.refl _ _⟩
end Go.Proofs.Ytbelmadbjiiodaa
namespace Go.Proofs.Ytbelmadbjiiodaa
open Go Go.RowKit
namespace Dk
theorem may_is {D : Disk} (hd : D.down = false) (f : Int) : may D f = if isFile f = true then .ok else .arg := by
  unfold may
  rw [hd]
  simp
theorem flushB_is (D : Disk) (hd : D.down = false) (f : Int) : flushB D f = if isFile f = true then (if 0 < D.lost then (.lost, { D with lost := D.lost - 1 }) else (.ok, settled D f.toNat)) else (.arg, D) := by
  unfold flushB
  rw [may_is hd]
  by_cases h : isFile f = true
  · rw [if_pos h, if_pos h, if_pos rfl]; rfl
  · rw [if_neg h, if_neg h, if_neg (by decide)]
def cutTo (D : Disk) (f n : Nat) : Disk := { settled D f with last := setLast (settled D f).last f ((read D f).take n) }
theorem cutB_is (D : Disk) (hd : D.down = false) (f n : Int) : cutB D f n = if isFile f = true then (if n < 0 ∨ ((read D f.toNat).length : Int) < n then (.arg, D) else (.ok, cutTo D f.toNat n.toNat)) else (.arg, D) := by
  unfold cutB
  rw [may_is hd]
  by_cases h : isFile f = true
  · have e : setLast (settled D f.toNat).last f.toNat ((read D f.toNat).take n.toNat) = setLast D.last f.toNat ((read D f.toNat).take n.toNat) := setLast_twice _ _ _ _
    unfold cutTo
    rw [e, if_pos h, if_pos h, if_pos rfl]; rfl
  · rw [if_neg h, if_neg h, if_neg (by decide)]
theorem settled_last (D : Disk) (f : Nat) : (settled D f).last f = read D f := by unfold settled setLast; simp
end Dk
set_option maxHeartbeats 2000000 in
set_option maxRecDepth 100000 in
theorem flush_any (g : Nat) (D : Dk.Disk) (f : Int) (w : World) (h : DiskAt w g D) :
    Calls Try.prog 23 #[.pointer (some ⟨g, 0, none⟩), .int .i64 f] w fun e w' => e = .returned (.int .i64 (Dk.ec (Dk.flush D f).1)) ∧ DiskAt w' g (Dk.flush D f).2 ∧ Mv g w w' := by
  have C1 := Lib.hid (fails_any g D w h)
  unfold Dk.flush
  obtain ⟨D1, hD1⟩ : ∃ D1, Dk.comes D none = D1 := ⟨_, rfl⟩
  rw [hD1] at C1 ⊢
  clear hD1
  by_cases hd : D1.down = true
  · have e : Dk.flushB D1 f = (.down, D1) := by unfold Dk.flushB; rw [Dk.may_down hd, if_neg (by decide)]
    rw [e]
    rw [hd] at C1
    clear h e
    go_enter Try.func23, Try.ntmps23
    go_wp2_with (go_at_call 45; refine C1.out.mono ?_; rintro _ w1 ⟨rfl, hv1, hm1⟩; have HV1 := Lib.hid hv1; have HM1 := Lib.hid hm1; clear hv1 hm1)
    go_ret
    exact ⟨rfl, HV1.out, HM1.out⟩
  · have hd' : D1.down = false := by simpa using hd
    rw [Dk.flushB_is D1 hd']
    rw [hd'] at C1
    have C2 := Lib.hid (fun w1 : World => isFile_any f w1)
    by_cases hf : Dk.isFile f = true
    · obtain ⟨f0, f1⟩ := (Dk.isFile_iff f).1 hf
      rw [if_pos hf]
      rw [hf] at C2
      obtain ⟨fn, rfl⟩ : ∃ n : Nat, f = (n : Int) := ⟨f.toNat, by omega⟩
      rw [show ((fn : Int)).toNat = fn from rfl]
      have hfn : fn < 12 := by omega
      by_cases hl : 0 < D1.lost
      · rw [if_pos hl]
        obtain ⟨lo, hlo⟩ : ∃ a, D1.lost = a := ⟨_, rfl⟩
        have KEY := Lib.hid (fun (w1 : World) (hv : DiskAt w1 g D1) => show w1.cell? ⟨g, 14, none⟩ = some (.int .i64 lo) ∧ w1.frozen? ⟨g, 14, none⟩ = false ∧ lo ≤ 9223372036854775807 ∧ Hid (DiskAt (w1.setCell ⟨g, 14, none⟩ (.int .i64 (lo - 1))) g { D1 with lost := lo - 1 } ∧ Mv g w1 (w1.setCell ⟨g, 14, none⟩ (.int .i64 (lo - 1)))) from by
          obtain ⟨vs, q, k, hv⟩ := hv
          have g1 := hv.good
          exact ⟨by rw [← hlo]; exact hv.clost, hv.blk.free 14, by rw [← hlo]; exact g1.lost1, ⟨_, _, _, hv.mark 14 _ { D1 with lost := lo - 1 } _ _ rfl rfl rfl (fun ha => hv.keep_set ha 14 _) rfl ⟨g1.len, g1.pcs, g1.q, by show (0 : Int) ≤ lo - 1; omega, by have := g1.lost1; show lo - 1 ≤ _; omega, g1.armed0, g1.armed1⟩ hv.kone⟩, Mv.set hv.blk 14 _ (fun x hx => by cases hx)⟩)
        rw [hlo] at hl ⊢
        clear h hlo hd hd' hf
        go_enter Try.func23, Try.ntmps23
        go_wp2_with (first | (go_at_call 45; refine C1.out.mono ?_; rintro _ w1 ⟨rfl, hv1, hm1⟩; obtain ⟨cc14, ff14, hlo1, HK⟩ := KEY.out w1 hv1; have HV1 := Lib.hid hv1; have HM1 := Lib.hid hm1; clear hv1 hm1) | (go_at_call 41; refine (C2.out _).mono ?_; rintro _ w2 ⟨rfl, rfl⟩))
        go_ret
        exact ⟨rfl, HK.out.1, HM1.out.trans HK.out.2⟩
      · rw [if_neg hl]
        obtain ⟨lo, hlo⟩ : ∃ a, D1.lost = a := ⟨_, rfl⟩
        have hl2 : ¬ 0 < lo := by rw [← hlo]; exact hl
        have KEY := Lib.hid (fun (w1 : World) (hv : DiskAt w1 g D1) => show w1.cell? ⟨g, 14, none⟩ = some (.int .i64 lo) from by
          obtain ⟨vs, q, k, hv⟩ := hv
          rw [← hlo]; exact hv.clost)
        have C3 := Lib.hid (fun (w1 : World) (hv : DiskAt w1 g D1) => show Calls Try.prog 46 #[.pointer (some ⟨g, 0, none⟩), .int .i64 (fn : Int)] w1 fun e w' => (∃ v, e = .returned v) ∧ DiskAt w' g (Dk.settled D1 fn) ∧ Mv g w1 w' from by
          obtain ⟨vs, q, k, hv⟩ := hv
          refine (settle_any g vs q k D1 fn hfn w1 hv).mono ?_
          rintro e w' ⟨h1, ⟨vs', q', h2⟩, h3⟩
          exact ⟨h1, ⟨_, _, _, h2⟩, h3⟩)
        clear h hlo hd hd' hf hl
        go_enter Try.func23, Try.ntmps23
        go_wp2_with (first | (go_at_call 45; refine C1.out.mono ?_; rintro _ w1 ⟨rfl, hv1, hm1⟩; have cc14 := KEY.out w1 hv1; have HV1 := Lib.hid hv1; have HM1 := Lib.hid hm1; clear hv1 hm1) | (go_at_call 41; refine (C2.out _).mono ?_; rintro _ w2 ⟨rfl, rfl⟩) | (go_at_call 46; refine (C3.out _ HV1.out).mono ?_; rintro _ w3 ⟨⟨v3, rfl⟩, hv3, hm3⟩; have HV3 := Lib.hid hv3; have HM3 := Lib.hid hm3; clear hv3 hm3))
        go_ret
        exact ⟨rfl, HV3.out, HM1.out.trans HM3.out⟩
    · rw [if_neg hf]
      have hf' : Dk.isFile f = false := by simpa using hf
      rw [hf'] at C2
      clear h hd hd' hf hf'
      go_enter Try.func23, Try.ntmps23
      go_wp2_with (first | (go_at_call 45; refine C1.out.mono ?_; rintro _ w1 ⟨rfl, hv1, hm1⟩; have HV1 := Lib.hid hv1; have HM1 := Lib.hid hm1; clear hv1 hm1) | (go_at_call 41; refine (C2.out _).mono ?_; rintro _ w2 ⟨rfl, rfl⟩))
      go_ret
      exact ⟨rfl, HV1.out, HM1.out⟩
end Go.Proofs.Ytbelmadbjiiodaa
namespace Go.Proofs.Ytbelmadbjiiodaa
open Go Go.RowKit
theorem own_cut {w : World} {base : Nat} {pa : Option Addr} {L cap n : Nat} {l : List UInt8} (h : w.ownsRow base 5 1 (.slice pa L cap) l.length (bv l)) (hn : n ≤ l.length) : w.ownsRow base 5 1 (.slice pa n cap) (l.take n).length (bv (l.take n)) := by
  have hl : (l.take n).length = n := by rw [List.length_take]; omega
  refine ⟨by rw [bv_length]; omega, ?_⟩
  rcases h.2 with ⟨h1, h2⟩ | ⟨g, c, cur, h1, hb, hg, hnc, hcm, hcs, ht⟩
  · injection h1 with h3 _ h4
    subst h3
    subst h4
    have : n = 0 := by omega
    subst this
    exact .inl ⟨rfl, by rw [hl]⟩
  · injection h1 with h3 _ h4
    subst h3
    subst h4
    refine .inr ⟨g, cap, cur, by rw [hl], hb, hg, by omega, hcm, hcs, ?_⟩
    have e : bv (l.take n) = (bv l).take n := by unfold bv; rw [List.map_take]
    rw [hl, e, ← ht, List.take_take]
    congr 1
    omega
theorem DiskAt.drews {w : World} {g : Nat} {D : Dk.Disk} (h : DiskAt w g D) (n : Nat) : DiskAt (w.drewN n) g D := by
  obtain ⟨vs, q, k, h⟩ := h
  exact ⟨vs, q, k, h.drews n⟩
theorem own_shape {w : World} {base : Nat} {v : Value} {l : List UInt8} (h : w.ownsRow base 5 1 v l.length (bv l)) : ∃ pa cap, v = .slice pa l.length cap ∧ l.length ≤ cap ∧ cap ≤ 9223372036854775807 := by
  rcases h.2 with ⟨rfl, h0⟩ | ⟨g, cap, cur, rfl, hb, hg, h1, h2, _⟩
  · exact ⟨none, 0, by rw [h0], by omega, by omega⟩
  · exact ⟨_, cap, rfl, h1, by unfold maxLen at h2; omega⟩
set_option maxHeartbeats 4000000 in
set_option maxRecDepth 100000 in
theorem cut_ok (g : Nat) (D1 : Dk.Disk) (f n : Nat) (hf : f < 12) (w : World) (C1' : Calls Try.prog 45 #[.pointer (some ⟨g, 0, none⟩)] w fun e w' => e = .returned (.bool D1.down) ∧ DiskAt w' g D1 ∧ Mv g w w') (hd : D1.down = false) (hn : n ≤ (Dk.read D1 f).length) :
    Calls Try.prog 26 #[.pointer (some ⟨g, 0, none⟩), .int .i64 (f : Int), .int .i64 (n : Int)] w fun e w' => e = .returned (.int .i64 0) ∧ DiskAt w' g (Dk.cutTo D1 f n) ∧ Mv g w w' := by
  rw [hd] at C1'
  have C1 := Lib.hid C1'
  have hif : Dk.isFile (f : Int) = true := by unfold Dk.isFile; simp; omega
  have C2 := Lib.hid (fun w1 : World => isFile_any (f : Int) w1)
  rw [hif] at C2
  have hsz : Dk.size D1 (f : Int) = (Dk.read D1 f).length := by unfold Dk.size; rw [if_pos (by omega)]; rfl
  obtain ⟨L, hL⟩ : ∃ L, (Dk.read D1 f).length = L := ⟨_, rfl⟩
  have C3 := Lib.hid (fun (w1 : World) (hv : DiskAt w1 g D1) => show Calls Try.prog 17 #[.pointer (some ⟨g, 0, none⟩), .int .i64 (f : Int)] w1 fun e w' => e = .returned (.int .i64 (L : Int)) ∧ DiskAt w' g D1 ∧ Mv g w1 w' from by
    refine (size_any g D1 (f : Int) w1 hv).mono ?_
    rintro e w' ⟨h1, h2⟩
    obtain ⟨vs, q, k, hv⟩ := hv
    rw [hsz, hL] at h1
    exact ⟨h1, ⟨_, _, _, hv.below h2⟩, Mv.of_below h2 hv.lt⟩)
  have hlen : ∀ (w1 : World), DiskAt w1 g D1 → L ≤ 16777216 := fun w1 ⟨vs, q, k, hv⟩ => by rw [← hL]; exact hv.good.read f hf
  have C4 := Lib.hid (fun (w1 : World) (hv : DiskAt w1 g D1) => show Calls Try.prog 46 #[.pointer (some ⟨g, 0, none⟩), .int .i64 (f : Int)] w1 fun e w' => (∃ v, e = .returned v) ∧ Mv g w1 w' ∧ ∃ pa cap, w'.cell? ⟨g, f, none⟩ = some (.slice pa L cap) ∧ w'.frozen? ⟨g, f, none⟩ = false ∧ L ≤ cap ∧ cap ≤ 9223372036854775807 ∧
      Hid (DiskAt (w'.setCell ⟨g, f, none⟩ (.slice pa n cap)) g (Dk.cutTo D1 f n) ∧ Mv g w' (w'.setCell ⟨g, f, none⟩ (.slice pa n cap))) from by
    obtain ⟨vs, q, k, hv⟩ := hv
    refine (settle_any g vs q k D1 f hf w1 hv).mono ?_
    rintro e w' ⟨h1, ⟨vs', q', h2⟩, h3⟩
    refine ⟨h1, h3, ?_⟩
    have ho := h2.file f hf
    rw [Dk.settled_last] at ho
    obtain ⟨pa, cap, hv', hc1, hc2⟩ := own_shape ho
    rw [hL] at hc1 hv'
    refine ⟨pa, cap, by rw [← hv']; exact h2.cfile f hf, h2.blk.free f, hc1, hc2, ?_⟩
    rw [hv'] at ho
    have hs : SF w' (vs' f) (.slice pa n cap) := .inl (by rw [hv']; cases pa <;> rfl)
    have hcut := own_cut ho hn
    obtain ⟨x, y⟩ := h2.setFile (w' := w') hf (grown_refl _ _) hcut hs (by rw [List.length_take]; have := hlen w1 ⟨_, _, _, hv⟩; omega)
    exact ⟨⟨_, _, _, x⟩, y⟩)
  have HLN := Lib.hid hlen
  rw [hL] at hn
  have hnL : ¬ (L : Int) < (n : Int) := by omega
  have hn0 : ¬ ((n : Int) < 0) := by omega
  clear hd hif hsz hL hlen C1'
  go_enter Try.func26, Try.ntmps26
  go_wp2_with (first | (go_at_call 45; refine C1.out.mono ?_; rintro _ w1 ⟨rfl, hv1, hm1⟩; have hL2 := HLN.out w1 hv1; have HV1 := Lib.hid hv1; have HM1 := Lib.hid hm1; clear hv1 hm1) | (go_at_call 41; refine (C2.out _).mono ?_; rintro _ w2 ⟨rfl, rfl⟩) | (go_at_call 17; refine (C3.out _ HV1.out).mono ?_; rintro _ w3 ⟨rfl, hv3, hm3⟩; have HV3 := Lib.hid hv3; have HM3 := Lib.hid hm3; clear hv3 hm3) | (go_at_call 46; refine (C4.out _ HV3.out).mono ?_; rintro _ w4 ⟨⟨v4, rfl⟩, hm4, pa, cap, cc, ff, hc1, hc2, HK⟩; have HM4 := Lib.hid hm4; clear hm4))
  go_region
  all_goals
    go_wp2
    go_ret
    exact ⟨rfl, HK.out.1.drews 1, (((HM1.out.trans HM3.out).trans HM4.out).trans HK.out.2).drews 1⟩
set_option maxHeartbeats 4000000 in
set_option maxRecDepth 100000 in
theorem cut_any (g : Nat) (D : Dk.Disk) (f n : Int) (w : World) (h : DiskAt w g D) :
    Calls Try.prog 26 #[.pointer (some ⟨g, 0, none⟩), .int .i64 f, .int .i64 n] w fun e w' => e = .returned (.int .i64 (Dk.ec (Dk.cut D f n).1)) ∧ DiskAt w' g (Dk.cut D f n).2 ∧ Mv g w w' := by
  have C1' := fails_any g D w h
  unfold Dk.cut
  obtain ⟨D1, hD1⟩ : ∃ D1, Dk.comes D none = D1 := ⟨_, rfl⟩
  rw [hD1] at C1' ⊢
  clear hD1
  by_cases hd : D1.down = true
  · have e : Dk.cutB D1 f n = (.down, D1) := by unfold Dk.cutB; rw [Dk.may_down hd, if_neg (by decide)]
    rw [e]
    rw [hd] at C1'
    have C1 := Lib.hid C1'
    clear h e C1'
    go_enter Try.func26, Try.ntmps26
    go_wp2_with (go_at_call 45; refine C1.out.mono ?_; rintro _ w1 ⟨rfl, hv1, hm1⟩; have HV1 := Lib.hid hv1; have HM1 := Lib.hid hm1; clear hv1 hm1)
    go_ret
    exact ⟨rfl, HV1.out, HM1.out⟩
  · have hd' : D1.down = false := by simpa using hd
    rw [Dk.cutB_is D1 hd']
    have C2 := Lib.hid (fun w1 : World => isFile_any f w1)
    by_cases hf : Dk.isFile f = true
    · obtain ⟨f0, f1⟩ := (Dk.isFile_iff f).1 hf
      rw [if_pos hf]
      obtain ⟨fn, rfl⟩ : ∃ n : Nat, f = (n : Int) := ⟨f.toNat, by omega⟩
      rw [show ((fn : Int)).toNat = fn from rfl]
      have hfn : fn < 12 := by omega
      by_cases hn0 : n < 0
      · rw [if_pos (.inl hn0)]
        rw [hf] at C2
        rw [hd'] at C1'
        have C1 := Lib.hid C1'
        clear h C1' hd hd' hf
        go_enter Try.func26, Try.ntmps26
        go_wp2_with (first | (go_at_call 45; refine C1.out.mono ?_; rintro _ w1 ⟨rfl, hv1, hm1⟩; have HV1 := Lib.hid hv1; have HM1 := Lib.hid hm1; clear hv1 hm1) | (go_at_call 41; refine (C2.out _).mono ?_; rintro _ w2 ⟨rfl, rfl⟩))
        go_ret
        exact ⟨rfl, HV1.out, HM1.out⟩
      · obtain ⟨m, rfl⟩ : ∃ m : Nat, n = (m : Int) := ⟨n.toNat, by omega⟩
        by_cases hnl : ((Dk.read D1 fn).length : Int) < (m : Int)
        · rw [if_pos (.inr hnl)]
          have hsz : Dk.size D1 (fn : Int) = (Dk.read D1 fn).length := by unfold Dk.size; rw [if_pos (by omega)]; rfl
          obtain ⟨L, hL⟩ : ∃ L, (Dk.read D1 fn).length = L := ⟨_, rfl⟩
          have C3 := Lib.hid (fun (w1 : World) (hv : DiskAt w1 g D1) => show Calls Try.prog 17 #[.pointer (some ⟨g, 0, none⟩), .int .i64 (fn : Int)] w1 fun e w' => e = .returned (.int .i64 (L : Int)) ∧ DiskAt w' g D1 ∧ Mv g w1 w' from by
            refine (size_any g D1 (fn : Int) w1 hv).mono ?_
            rintro e w' ⟨h1, h2⟩
            obtain ⟨vs, q, k, hv⟩ := hv
            rw [hsz, hL] at h1
            exact ⟨h1, ⟨_, _, _, hv.below h2⟩, Mv.of_below h2 hv.lt⟩)
          rw [hL] at hnl
          rw [hf] at C2
          rw [hd'] at C1'
          have C1 := Lib.hid C1'
          clear h C1' hd hd' hf hsz hL
          go_enter Try.func26, Try.ntmps26
          go_wp2_with (first | (go_at_call 45; refine C1.out.mono ?_; rintro _ w1 ⟨rfl, hv1, hm1⟩; have HV1 := Lib.hid hv1; have HM1 := Lib.hid hm1; clear hv1 hm1) | (go_at_call 41; refine (C2.out _).mono ?_; rintro _ w2 ⟨rfl, rfl⟩) | (go_at_call 17; refine (C3.out _ HV1.out).mono ?_; rintro _ w3 ⟨rfl, hv3, hm3⟩; have HV3 := Lib.hid hv3; have HM3 := Lib.hid hm3; clear hv3 hm3))
          go_ret
          exact ⟨rfl, HV3.out, HM1.out.trans HM3.out⟩
        · rw [if_neg (by omega)]
          exact cut_ok g D1 fn m hfn w C1' hd' (by omega)
    · rw [if_neg hf]
      have hf' : Dk.isFile f = false := by simpa using hf
      rw [hf'] at C2
      rw [hd'] at C1'
      have C1 := Lib.hid C1'
      clear h C1' hd hd' hf hf'
      go_enter Try.func26, Try.ntmps26
      go_wp2_with (first | (go_at_call 45; refine C1.out.mono ?_; rintro _ w1 ⟨rfl, hv1, hm1⟩; have HV1 := Lib.hid hv1; have HM1 := Lib.hid hm1; clear hv1 hm1) | (go_at_call 41; refine (C2.out _).mono ?_; rintro _ w2 ⟨rfl, rfl⟩))
      go_ret
      exact ⟨rfl, HV1.out, HM1.out⟩
end Go.Proofs.Ytbelmadbjiiodaa
