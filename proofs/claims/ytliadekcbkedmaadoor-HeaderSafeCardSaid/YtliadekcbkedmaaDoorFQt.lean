/-
  header.Quote.
-/
import Derived.Test.YtliadekcbkedmaaDoorFPrm
import Derived.Deep.RegionWith
import Derived.Deep.RegionHeld3
namespace Go.Proofs.YtliadekcbkedmaaDoor
open Go Go.RowKit Go.Shelf
namespace Hd
def quoF (ps : List Fd) (k : Nat) : List UInt8 := ((ps.take k).map quote1).flatten
theorem quoF_succ {ps : List Fd} {k : Nat} {p : Fd} (h : ps[k]? = some p) : quoF ps (k + 1) = quoF ps k ++ quote1 p := by
  unfold quoF
  rw [List.take_add_one, h, List.map_append, List.flatten_append]
  simp
theorem esc_len : ∀ l : List UInt8, (esc l).length ≤ 2 * l.length
  | [] => Nat.le_refl _
  | c :: r => by
    have := esc_len r
    unfold esc at this ⊢
    rw [List.flatMap_cons, List.length_append, List.length_cons]
    split
    · rw [show ([92, c] : List UInt8).length = 2 from rfl]; omega
    · rw [show ([c] : List UInt8).length = 1 from rfl]; omega
theorem quoted_len (v : List UInt8) : (quoted v).length ≤ 2 * v.length + 2 := by
  have := esc_len v
  unfold quoted
  split
  · omega
  · simp; omega
theorem quote1_len {p : Fd} (h1 : p.1.length ≤ 10000) (h2 : p.2.length ≤ 10000) : (quote1 p).length ≤ 40000 := by
  have := quoted_len p.2
  unfold quote1
  split
  · simp; omega
  · simp
theorem quoF_len {ps : List Fd} (h : ∀ p ∈ ps, p.1.length ≤ 10000 ∧ p.2.length ≤ 10000) : ∀ k, (quoF ps k).length ≤ 40000 * k
  | 0 => by simp [quoF]
  | k + 1 => by
    have ih := quoF_len h k
    cases e : ps[k]? with
    | none =>
      have : quoF ps (k + 1) = quoF ps k := by unfold quoF; rw [List.take_add_one, e]; simp
      rw [this]; omega
    | some p =>
      have hp := h p (List.mem_of_getElem? e)
      have := quote1_len hp.1 hp.2
      rw [quoF_succ e, List.length_append]; omega
end Hd
theorem quoted_to {l m : List UInt8} (h : Hd.quoted l = m) (w : World) (hl : l.length ≤ 200000) (hm : MaxAt w) :
    Calls Tryd.prog 43 #[.string ⟨l.toArray⟩] w fun e w' => e = .returned (.string ⟨m.toArray⟩) ∧ Below w.heap.size w w' := by
  rw [← h]; exact quoted_any ⟨l.toArray⟩ w (mk_size_le hl) hm
/-- Sums of strings, by their lists. -/
theorem add_mk (a b : List UInt8) (h : a.length + b.length ≤ 1000000000) (w : World) : (Op.stringOp .add ⟨a.toArray⟩ ⟨b.toArray⟩).run Tryd.prog w = .ok (.string ⟨(a ++ b).toArray⟩) w := by
  have := run_string_add_sum (P := Tryd.prog) (w := w) ⟨a.toArray⟩ ⟨b.toArray⟩ (by rw [mk_len, mk_len]; omega)
  rw [this, ← str_back (⟨a.toArray⟩ ++ ⟨b.toArray⟩), ba_append]
set_option maxHeartbeats 1000000 in
set_option maxRecDepth 100000 in
theorem quote_any (main : ByteArray) (X : List Hd.Fd) (n cap : Nat) (xa : Option Addr) (xb off : Nat) (w : World) (hs : main.size ≤ 100000) (hX : PL w xa xb off X) (hn : X.length = n) (hN : n ≤ 1000) (hE : ∀ p ∈ X, p.1.length ≤ 10000 ∧ p.2.length ≤ 10000) (hm : MaxAt w) :
    Calls Tryd.prog 15 #[.string main, .slice xa n cap] w fun e w' => e = .returned (.string ⟨(Hd.quote main.data.toList X).toArray⟩) ∧ Below w.heap.size w w' := by
  have hR : Hd.quote main.data.toList X = main.data.toList ++ Hd.quoF X n := by
    unfold Hd.quote Hd.quoF
    rw [List.take_of_length_le (by omega)]
  rw [hR]
  have HX := Lib.hid hX
  have HNn := Lib.hid hn
  have HE := Lib.hid hE
  have HM := Lib.hid hm
  have hpos := hm.pos
  have HF := Lib.hid (Bld.fresh w)
  have HL := Lib.hid (Hd.quoF_len hE)
  obtain ⟨b, hb⟩ : ∃ b, w.heap.size = b := ⟨_, rfl⟩
  have HS := Lib.hid hb
  clear hX hn hE hm hR
  go_enter Tryd.func15, Tryd.ntmps15
  go_wp2_with (go_at_call 41; refine (ws_any b b [] main _ (by rw [← hb]; exact HF.out) (by simp; omega) (by rw [alloc_size]; omega)).mono ?_; rintro e w1 ⟨rfl, hBl1, hB1, -⟩)
  rw [List.nil_append] at hBl1
  have hB01 : Below b w w1 := by rw [← hb] at hB1 ⊢; exact (below_new w _).trans hB1
  have HI := Lib.hid (show Bld b b (main.data.toList ++ Hd.quoF X 0) w1 ∧ Below b w w1 from ⟨by simpa [Hd.quoF] using hBl1, hB01⟩)
  clear hBl1 hB1 hB01 hb HF
  go_loopw [7, 12] (fun _ i wr => ∃ k : Nat, i = .int .i64 k ∧ k ≤ n ∧ Hid (Bld b b (main.data.toList ++ Hd.quoF X k) wr ∧ Below b w wr)) (fun _ i _ => n - (intOf i).toNat)
  case atStart => exact ⟨0, rfl, Nat.zero_le _, HI.out⟩
  case round =>
    obtain ⟨k, rfl, hk, hI⟩ := hrel
    clear HI
    have hsz : b ≤ wr.heap.size := by have := hI.out.2.size; have := HS.out; omega
    have hXr : PL wr xa xb off X := HX.out.below hI.out.2 (fun hp => by rw [← HS.out]; exact HX.out.lt hp)
    by_cases hlt : k < n
    · obtain ⟨p, hp⟩ : ∃ p, X[k]? = some p := ⟨_, List.getElem?_eq_getElem (by rw [HNn.out]; exact hlt)⟩
      obtain rfl := hXr.at_ (by rw [HNn.out]; omega)
      obtain ⟨d0, d1⟩ := hXr.c k p hp
      have hpl := HE.out p (List.mem_of_getElem? hp)
      have hU := Hd.quoF_succ hp
      have hkl := HL.out k
      obtain ⟨N, V⟩ := p
      simp only at d0 d1 hpl
      cases ht : Hd.token N with
      | false =>
        have HU : Hid (Hd.quoF X (k + 1) = Hd.quoF X k) := Lib.hid (by rw [hU]; unfold Hd.quote1; rw [if_neg (by simp only; rw [ht]; decide)]; simp)
        have HT := Lib.hid (fun W => token_to (s := ⟨N.toArray⟩) ht W (mk_size_le (by omega)))
        have HBn := Lib.hid (bld_below hI.out.1 (below_new wr (.cells #[.string ⟨N.toArray⟩, .string ⟨V.toArray⟩] 25)))
        have HBe := Lib.hid (below_to hI.out.2 (by have := HS.out; omega) (below_new wr (.cells #[.string ⟨N.toArray⟩, .string ⟨V.toArray⟩] 25)))
        clear hU hp ht hpl
        go_wp2_with (go_at_call 42; refine (HT.out _).mono ?_; rintro e w' ⟨rfl, rfl⟩)
        go_roundw
        case rel => exact ⟨k + 1, by go_num, by omega, by rw [HU.out]; exact HBn.out, HBe.out⟩
        case measure => simp [intOf]; omega
      | true =>
        obtain ⟨qv, hqv⟩ : ∃ qv, Hd.quoted V = qv := ⟨_, rfl⟩
        have hql : qv.length ≤ 2 * V.length + 2 := by rw [← hqv]; exact Hd.quoted_len V
        have hU2 : Hd.quoF X (k + 1) = Hd.quoF X k ++ ([59, 32] ++ N ++ 61 :: qv) := by
          rw [hU]
          unfold Hd.quote1
          simp only
          rw [if_pos ht, hqv]
        have HT := Lib.hid (fun W => token_to (s := ⟨N.toArray⟩) ht W (mk_size_le (by omega)))
        have HQ := Lib.hid (fun W h => quoted_to hqv W (by omega) h)
        obtain ⟨Nb, hNb⟩ : ∃ Nb : ByteArray, (⟨N.toArray⟩ : ByteArray) = Nb := ⟨_, rfl⟩
        obtain ⟨Vb, hVb⟩ : ∃ Nb : ByteArray, (⟨V.toArray⟩ : ByteArray) = Nb := ⟨_, rfl⟩
        obtain ⟨Qb, hQb⟩ : ∃ Nb : ByteArray, (⟨qv.toArray⟩ : ByteArray) = Nb := ⟨_, rfl⟩
        have hNl : Nb.size = N.length := by rw [← hNb, mk_len]
        have hQl : Qb.size = qv.length := by rw [← hQb, mk_len]
        have hd0 : wr.cell? ⟨xb, off + k * 2, none⟩ = some (.string Nb) := by rw [← hNb]; exact d0
        have hd1 : wr.cell? ⟨xb, off + k * 2 + 1, none⟩ = some (.string Vb) := by rw [← hVb]; exact d1
        rw [hNb] at HT
        rw [hVb, hQb] at HQ
        obtain ⟨B1, hB1⟩ : ∃ B : ByteArray, (⟨#[59, 32]⟩ ++ Nb : ByteArray) = B := ⟨_, rfl⟩
        have hB1s : B1.size = 2 + Nb.size := by rw [← hB1, Lib.size_eq, ba_append, List.length_append, ← Lib.size_eq Nb]; rfl
        have hadd1 := fun w' : World => run_string_add_sum (P := Tryd.prog) (w := w') ⟨#[59, 32]⟩ Nb (by show 2 + Nb.size ≤ _; omega)
        rw [hB1] at hadd1
        obtain ⟨B2, hB2⟩ : ∃ B : ByteArray, (B1 ++ ⟨#[61]⟩ : ByteArray) = B := ⟨_, rfl⟩
        have hB2s : B2.size = B1.size + 1 := by rw [← hB2, Lib.size_eq, ba_append, List.length_append, ← Lib.size_eq B1]; rfl
        have hadd2 := fun w' : World => run_string_add_sum (P := Tryd.prog) (w := w') B1 ⟨#[61]⟩ (by show B1.size + 1 ≤ _; omega)
        rw [hB2] at hadd2
        obtain ⟨B3, hB3⟩ : ∃ B : ByteArray, (B2 ++ Qb : ByteArray) = B := ⟨_, rfl⟩
        have hB3s : B3.size = B2.size + Qb.size := by rw [← hB3, Lib.size_eq, ba_append, List.length_append, ← Lib.size_eq B2, ← Lib.size_eq Qb]
        have hadd3 := fun w' : World => run_string_add_sum (P := Tryd.prog) (w := w') B2 Qb (by omega)
        rw [hB3] at hadd3
        have HU : Hid (main.data.toList ++ Hd.quoF X k ++ B3.data.toList = main.data.toList ++ Hd.quoF X (k + 1)) := Lib.hid (by
          rw [hU2, ← hB3, ba_append, ← hB2, ba_append, ← hB1, ba_append, ← hQb, ← hNb]
          simp)
        have hB3l : B3.size ≤ 40000 := by omega
        have hml : (main.data.toList ++ Hd.quoF X k).length ≤ 100000 + 40000 * k := by rw [List.length_append, ← Lib.size_eq]; omega
        have HML : Hid ((main.data.toList ++ Hd.quoF X k).length + B3.size ≤ 140737488355328) := Lib.hid (by omega)
        obtain ⟨W0, hW0⟩ : ∃ W0, wr.alloc (.cells #[.string Nb, .string Vb] 25) = W0 := ⟨_, rfl⟩
        have hbW : Below wr.heap.size wr W0 := by rw [← hW0]; exact below_new wr _
        have hsW : W0.heap.size = wr.heap.size + 1 := by rw [← hW0, alloc_size]
        have hkW : W0.heap[wr.heap.size]? = some (.cells #[.string Nb, .string Vb] 25 (0, 0)) := by rw [← hW0]; exact World.alloc_heap_new wr _
        have HBn := Lib.hid (bld_below hI.out.1 hbW)
        have HBe := Lib.hid (below_to hI.out.2 (by have := HS.out; omega) hbW)
        have HKEEP := Lib.hid (fun (w2 : World) (hb2 : Below W0.heap.size W0 w2) => show w2.cell? ⟨wr.heap.size, 0, none⟩ = some (.string Nb) ∧ w2.cell? ⟨wr.heap.size, 1, none⟩ = some (.string Vb) from by
          have h := (hb2.block wr.heap.size (by omega)).trans hkW
          exact ⟨by simp [World.cell?, h], by simp [World.cell?, h]⟩)
        have HMW0 : MaxAt W0 := HM.out.below HBe.out (by rw [← HS.out]; exact hpos)
        have HMW : Hid (MaxAt W0.drew) := Lib.hid HMW0
        clear HMW0
        have HBD := Lib.hid (fun (w2 : World) (hb2 : Below W0.drew.heap.size W0.drew w2) => show Bld b b (main.data.toList ++ Hd.quoF X k) w2 ∧ Below b w w2 from by
          have hb3 : Below W0.heap.size W0 w2 := ⟨hb2.os, hb2.tape, hb2.output, hb2.size, hb2.block⟩
          exact ⟨bld_below HBn.out hb3, below_to HBe.out (by rw [← HS.out]; exact Nat.le_refl _) hb3⟩)
        have hw0 := (HKEEP.out W0 (Below.refl _ _)).1
        have hw1 := (HKEEP.out W0 (Below.refl _ _)).2
        have hdr : Below W0.heap.size W0 W0.drew := ⟨rfl, rfl, rfl, Nat.le_refl _, fun _ _ => rfl⟩
        have hv0 := (HKEEP.out W0.drew hdr).1
        have hv1 := (HKEEP.out W0.drew hdr).2
        clear hU hp ht hpl hqv hql hU2 hNb hVb hQb hNl hQl hB1 hB1s hB2 hB2s hB3 hB3s d0 d1 hml hkW hdr hbW
        go_wp2_with (go_at_call 42; refine (HT.out _).mono ?_; rintro e w' ⟨rfl, rfl⟩)
        clear hW0
        go_region_with (first
          | (go_at_call 41; refine (ws_any b b _ B3 _ HQ2.out.1 HML.out HQ3.out).mono ?_; rintro e w3 ⟨rfl, hBl3, hB3, -⟩)
          | (go_at_call 43; refine (HQ.out _ HMW.out).mono ?_; rintro e w2 ⟨rfl, hb2⟩; have HQ2 := Lib.hid (HBD.out _ hb2); have HQ3 : Hid (b ≤ w2.heap.size) := Lib.hid (by have := HQ2.out.2.size; have := HS.out; omega); obtain ⟨y0, y1⟩ := HKEEP.out w2 ⟨hb2.os, hb2.tape, hb2.output, hb2.size, hb2.block⟩)
          | fail)
        all_goals
          go_wp2
          go_roundw
          case rel => exact ⟨k + 1, by go_num, by omega, by rw [← HU.out]; exact hBl3, HQ2.out.2.trans hB3⟩
          case measure => simp [intOf]; omega
    · obtain rfl : k = n := by omega
      go_wp2_with (go_at_call 44; refine (str_any b b _ _ hI.out.1 hsz).mono ?_; rintro e w2 ⟨rfl, hB2, -⟩)
      go_ret
      exact ⟨rfl, by rw [HS.out]; exact hI.out.2.trans hB2⟩
end Go.Proofs.YtliadekcbkedmaaDoor
