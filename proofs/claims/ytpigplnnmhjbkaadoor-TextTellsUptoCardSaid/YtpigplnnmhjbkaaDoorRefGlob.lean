/-
  The reference's Glob: row by row.
-/
import Derived.Test.YtpigplnnmhjbkaaDoorRefRow
import Derived.Test.YtpigplnnmhjbkaaDoorRefA
import Derived.StillTailTactics
import Derived.BigRegion
import Derived.OwnWalk
import Derived.IntWalk
import Derived.Deep.RegionHeld3
namespace Go.Proofs.YtpigplnnmhjbkaaDoor
open Go Go.RowKit Go.Shelf

theorem infoBool : (Tryd.prog.info? 4).map (fun i => (i.zero, i.size, i.bytes)) = some (some (.bool false), 1, 1) := by kernel_rfl
/-- A row of bools that was just made. -/
theorem bRow_made {W : World} {base g n : Nat} (h : W.ownsRow base 4 1 (.slice (some ⟨g, 0, none⟩) n n) n (madeCells (Value.bool false).cells (n * 1)).toList) : BRow (fun _ => false) n g W := by
  rcases h.2 with ⟨h1, _⟩ | ⟨g', cap, cur, h1, _, hg, _, _, hsz, ht⟩
  · cases h1
  · injection h1 with h1 h2 h3
    injection h1 with h1
    injection h1 with h1
    subst h1
    subst h3
    refine ⟨fun j hj => ?_, fun j hj => ?_⟩
    · have hcur : cur[j]? = some (.bool false) := by
        have h4 : (cur.toList.take (n * 1))[j]? = some (.bool false) := by
          rw [ht]
          simp [madeCells, Value.cells, hj, Nat.mod_one]
        rw [List.getElem?_take_of_lt (by omega)] at h4
        simpa using h4
      simp [World.cell?, hg, hcur]
    · simp [World.frozen?, hg]
theorem row_made {W w' : World} {n : Nat} (h : w'.ownsRow W.heap.size 4 1 (.slice (some ⟨W.heap.size, 0, none⟩) n n) n (madeCells (Value.bool false).cells (n * 1)).toList) (hg : W.grownBy w' none) :
    Hid (BRow (fun _ => false) n W.heap.size w') ∧ Hid (Below W.heap.size W w') ∧ W.heap.size < w'.heap.size := by
  refine ⟨bRow_made h, (⟨hg.os, hg.tape, hg.output, hg.size, fun i hi => hg.block i hi (by simp)⟩ : Below _ _ _), ?_⟩
  rcases h.2 with ⟨h1, _⟩ | ⟨g', cap, cur, h1, _, hg', _⟩
  · cases h1
  · injection h1 with h1 _ _
    injection h1 with h1
    injection h1 with h1
    rw [h1]
    exact (Array.getElem?_eq_some_iff.1 hg').1
theorem start_row {s : ByteArray} {p : List UInt8} {n b : Nat} {w : World} (h : BRow (fun _ => false) n b w) (h0 : 0 < n) (hs : s.size = s.data.toList.length) (hn : n ≤ s.size + 1) :
    BRow (fun j => Tx.glob (p.take 0) (s.data.toList.take j)) n b (w.setCell ⟨b, 0, none⟩ (.bool true)) := by
  refine (h.set h0 true).same (fun j hj => ?_)
  rw [List.take_zero, Tx.glob_nil]
  by_cases hj0 : j = 0
  · subst hj0; simp
  · rw [if_neg hj0]
    have : (s.data.toList.take j).length ≠ 0 := by rw [List.length_take]; omega
    cases hq : s.data.toList.take j with
    | nil => rw [hq] at this; exact absurd rfl this
    | cons c t => rfl
/-- What the next row holds when its first k words are written. -/
def nextRow (f : Nat → Bool) (k : Nat) (j : Nat) : Bool := if j < k then f j else false
theorem nextRow_set (f : Nat → Bool) (k j : Nat) : (if j = k then f k else nextRow f k j) = nextRow f (k + 1) j := by
  unfold nextRow
  by_cases h : j = k
  · subst h; simp
  · by_cases h2 : j < k
    · rw [if_neg h, if_pos h2, if_pos (by omega)]
    · rw [if_neg h, if_neg h2, if_neg (by omega)]
theorem BRow.next {f : Nat → Bool} {n b k : Nat} {w : World} (h : BRow (nextRow f k) n b w) (hk : k < n) (v : Bool) (hv : v = f k) : BRow (nextRow f (k + 1)) n b (w.setCell ⟨b, k, none⟩ (.bool v)) := by
  subst hv
  exact (h.set hk (f k)).same (fun j _ => (nextRow_set f k j).symm)

set_option maxHeartbeats 4000000 in
set_option maxRecDepth 100000 in
theorem refGlob_any (p s : ByteArray) (w : World) (hp : p.size ≤ 1000) (hs : s.size ≤ 1000) :
    Calls Tryd.prog 32 #[.string p, .string s] w fun e w' => e = .returned (.bool (Tx.glob p.data.toList s.data.toList)) ∧ Below w.heap.size w w' := by
  obtain ⟨i0, hi, hz0, hz1, hz2⟩ := info_parts infoBool
  obtain ⟨n, hn⟩ : ∃ n, n = s.size + 1 := ⟨_, rfl⟩
  have hn1 : n ≤ s.size + 1 := by omega
  have hn2 : s.size + 1 ≤ n := by omega
  clear hn
  have hst := Lib.hid (Lib.size_eq s)
  have hpt := Lib.hid (Lib.size_eq p)
  go_enter Tryd.func32, Tryd.ntmps32
  go_wp2_with (at_make; refine wpList_make_full _ rfl _ _ 57 rfl w.heap.size 4 i0 (.bool false) 1 Tryd.underlying57 hi hz0 hz1 .i64 .i64 _ _ n rfl rfl (by omega) (by omega) (by rw [hz2]; omega) (by unfold maxLen; omega) (Nat.le_refl _) ?_; intro w1 hown hgrow; obtain ⟨HR, HB, hbz⟩ := row_made hown hgrow; have hc0 := HR.out.cell 0 (by omega); have hf0 := HR.out.free 0 (by omega); clear hown hgrow)
  have HR1 : Hid (BRow (fun j => Tx.glob (p.data.toList.take 0) (s.data.toList.take j)) n w.heap.size (w1.setCell ⟨w.heap.size, 0, none⟩ (.bool true))) := start_row HR.out (by omega) hst.out hn1
  go_loopw [5, 6] (fun row iv wr => ∃ (b i : Nat), row = .slice (some ⟨b, 0, none⟩) n n ∧ iv = .int .i64 i ∧ i ≤ p.size ∧ Hid (BRow (fun j => Tx.glob (p.data.toList.take i) (s.data.toList.take j)) n b wr) ∧ w.heap.size ≤ b ∧ b < wr.heap.size ∧ Hid (Below w.heap.size w wr)) (fun _ iv _ => p.size - (intOf iv).toNat)
  case atStart => exact ⟨w.heap.size, 0, rfl, rfl, Nat.zero_le _, HR1.out, Nat.le_refl _, by simpa using hbz, HB.out.setCell (p := ⟨w.heap.size, 0, none⟩) (Nat.le_refl _) _⟩
  case round =>
    clear HR1 HR HB hc0 hf0 hbz
    obtain ⟨b, i, rfl, rfl, hip, hrow, hwb, hbz, hbel⟩ := hrel
    by_cases hlt : i < p.size
    · obtain ⟨c, hc⟩ : ∃ c, p[i] = c := ⟨_, rfl⟩
      have htk : Hid (p.data.toList.take (i + 1) = p.data.toList.take i ++ [c]) := by
        show _ = _
        rw [← hc, List.take_succ_eq_append_getElem (by simpa using hlt)]; rfl
      have HC := Lib.hid hc
      clear hc
      go_wp2_with (at_make; refine wpList_make_full _ rfl _ _ 57 rfl wr.heap.size 4 i0 (.bool false) 1 Tryd.underlying57 hi hz0 hz1 .i64 .i64 _ _ n rfl rfl (by omega) (by omega) (by rw [hz2]; omega) (by unfold maxLen; omega) (Nat.le_refl _) ?_; intro w2 hown hgrow; obtain ⟨HR2, HB2, hbz2⟩ := row_made hown hgrow; clear hown hgrow)
      have hrow2 : Hid (BRow (fun j => Tx.glob (p.data.toList.take i) (s.data.toList.take j)) n b w2) := hrow.out.below HB2.out hbz
      have hbel2 : Hid (Below w.heap.size w w2) := hbel.out.trans (HB2.out.mono hbel.out.size)
      have hne : b ≠ wr.heap.size := by omega
      have hww : w.heap.size ≤ wr.heap.size := hbel.out.size
      clear HB2 hrow hbel
      obtain ⟨d, hd⟩ : ∃ d, wr.heap.size = d := ⟨_, rfl⟩
      rw [hd] at HR2 hbz2 hne hww
      rw [hd]
      clear hd
      go_loopw [8] (fun kv wr => ∃ k : Nat, kv = .int .i64 k ∧ k ≤ n ∧ Hid (BRow (fun j => Tx.glob (p.data.toList.take i) (s.data.toList.take j)) n b wr) ∧ Hid (BRow (nextRow (fun j => Tx.glob (p.data.toList.take (i + 1)) (s.data.toList.take j)) k) n d wr) ∧ d < wr.heap.size ∧ Hid (Below w.heap.size w wr)) (fun kv _ => n - (intOf kv).toNat)
      case atStart => exact ⟨0, rfl, Nat.zero_le _, hrow2.out, HR2.out.same (fun j _ => by simp [nextRow]), hbz2, hbel2.out⟩
      case round =>
        clear hrow2 HR2 hbel2 hbz2
        obtain ⟨k, rfl, hkn, hrow, hnext, hdz, hbel⟩ := hrel
        by_cases hk : k < n
        · have HFin : Hid (∀ v, v = Tx.glob (p.data.toList.take (i + 1)) (s.data.toList.take k) → BRow (nextRow (fun j => Tx.glob (p.data.toList.take (i + 1)) (s.data.toList.take j)) (k + 1)) n d (wr.setCell ⟨d, k, none⟩ (.bool v))) := fun v hv => hnext.out.next hk v hv
          have HOld : Hid (∀ v, BRow (fun j => Tx.glob (p.data.toList.take i) (s.data.toList.take j)) n b (wr.setCell ⟨d, k, none⟩ (.bool v))) := fun v => hrow.out.aside hne _
          have HBel : Hid (∀ v, Below w.heap.size w (wr.setCell ⟨d, k, none⟩ (.bool v))) := fun v => hbel.out.setCell (p := ⟨d, k, none⟩) hww _
          have hfree := hnext.out.free k hk
          have hcur := hnext.out.cell k hk
          have HCur : Hid (∀ v, d < (wr.setCell ⟨d, k, none⟩ (.bool v)).heap.size) := fun v => by simpa using hdz
          have hc : p[i] = c := HC.out
          by_cases h42 : c = 42
          · have t1 : ((c.toNat : Int) == 42) = true := by rw [h42]; rfl
            have HQ := Lib.hid h42
            clear h42
            by_cases hk0 : k = 0
            · subst hk0
              obtain ⟨B, hB⟩ : ∃ B, Tx.glob (p.data.toList.take i) (s.data.toList.take 0) = B := ⟨_, rfl⟩
              have hcell := hrow.out.cell 0 hk
              simp only [hB] at hcell
              have HB := Lib.hid hB
              clear hB
              cases B
              all_goals
                go_wp2
                go_roundw
                case rel => exact ⟨1, rfl, by omega, HOld.out _, HFin.out _ (by rw [htk.out, HQ.out, Tx.row_star_zero, HB.out]), HCur.out _, HBel.out _⟩
                case measure => simp [intOf]; omega
            · obtain ⟨j, rfl⟩ : ∃ j, k = j + 1 := ⟨k - 1, by omega⟩
              clear hk0
              have hjl : Hid (j < s.data.toList.length) := by show _ < _; rw [← hst.out]; omega
              obtain ⟨B, hB⟩ : ∃ B, Tx.glob (p.data.toList.take i) (s.data.toList.take (j + 1)) = B := ⟨_, rfl⟩
              obtain ⟨D, hD⟩ : ∃ D, Tx.glob (p.data.toList.take (i + 1)) (s.data.toList.take j) = D := ⟨_, rfl⟩
              have hcell := hrow.out.cell (j + 1) hk
              have hcell2 := hnext.out.cell j (by omega)
              simp only [hB] at hcell
              unfold nextRow at hcell2
              simp only [show j < j + 1 from by omega, if_true, hD] at hcell2
              rw [htk.out, HQ.out] at hD
              have HB := Lib.hid hB
              have HD := Lib.hid hD
              clear hB hD
              cases B
              all_goals cases D
              all_goals
                go_wp2
                go_roundw
                case rel => exact ⟨j + 1 + 1, by first | rfl | go_num, by omega, HOld.out _, HFin.out _ (by rw [htk.out, HQ.out, Tx.row_star _ _ _ hjl.out, HB.out, HD.out]; rfl), HCur.out _, HBel.out _⟩
                case measure => simp [intOf]; omega
          · have t1 : ((c.toNat : Int) == 42) = false := by
              rw [beq_eq_false_iff_ne]
              intro e
              exact h42 (UInt8.toNat_inj.1 (by have : (42 : UInt8).toNat = 42 := rfl
                                               omega))
            have HQ := Lib.hid h42
            clear h42
            by_cases hk0 : k = 0
            · subst hk0
              by_cases h63 : c = 63
              · have t2 : ((c.toNat : Int) == 63) = true := by rw [h63]; rfl
                clear h63
                go_wp2
                go_roundw
                case rel => exact ⟨1, by first | rfl | go_num, by omega, HOld.out _, HFin.out _ (by rw [htk.out, Tx.row_byte_zero _ _ _ HQ.out]), HCur.out _, HBel.out _⟩
                case measure => simp [intOf]; omega
              · have t2 : ((c.toNat : Int) == 63) = false := by
                  rw [beq_eq_false_iff_ne]
                  intro e
                  exact h63 (UInt8.toNat_inj.1 (by have : (63 : UInt8).toNat = 63 := rfl
                                                   omega))
                clear h63
                go_wp2_with fail
                go_region
                go_wp2
                go_roundw
                case rel => exact ⟨1, by first | rfl | go_num, by omega, (HOld.out _).drews 1, (HFin.out _ (by rw [htk.out, Tx.row_byte_zero _ _ _ HQ.out])).drews 1, HCur.out _, below_drews (HBel.out _) 1⟩
                case measure => simp [intOf]; omega
            · obtain ⟨j, rfl⟩ : ∃ j, k = j + 1 := ⟨k - 1, by omega⟩
              clear hk0
              have hjs : j < s.size := by omega
              obtain ⟨e, he⟩ : ∃ e, s[j] = e := ⟨_, rfl⟩
              have hje : Hid (s.data.toList[j]? = some e) := by
                show _ = _
                rw [← he, List.getElem?_eq_getElem (by simpa using hjs)]; rfl
              obtain ⟨B, hB⟩ : ∃ B, Tx.glob (p.data.toList.take i) (s.data.toList.take j) = B := ⟨_, rfl⟩
              have hcell := hrow.out.cell j (by omega)
              simp only [hB] at hcell
              have HB := Lib.hid hB
              clear hB
              by_cases h63 : c = 63
              · have t2 : ((c.toNat : Int) == 63) = true := by rw [h63]; rfl
                have H63 := Lib.hid h63
                clear h63 he
                cases B
                all_goals
                  go_wp2
                  go_roundw
                  case rel => exact ⟨j + 1 + 1, by first | rfl | go_num, by omega, HOld.out _, HFin.out _ (by rw [htk.out, Tx.row_byte _ _ _ HQ.out _ _ hje.out, HB.out, H63.out]; simp), HCur.out _, HBel.out _⟩
                  case measure => simp [intOf]; omega
              · have t2 : ((c.toNat : Int) == 63) = false := by
                  rw [beq_eq_false_iff_ne]
                  intro e
                  exact h63 (UInt8.toNat_inj.1 (by have : (63 : UInt8).toNat = 63 := rfl
                                                   omega))
                have H63 := Lib.hid h63
                clear h63
                cases B
                · clear he
                  go_wp2_with fail
                  go_region
                  go_wp2
                  go_roundw
                  case rel => exact ⟨j + 1 + 1, by first | rfl | go_num, by omega, (HOld.out _).drews 1, (HFin.out _ (by rw [htk.out, Tx.row_byte _ _ _ HQ.out _ _ hje.out, HB.out]; rfl)).drews 1, HCur.out _, below_drews (HBel.out _) 1⟩
                  case measure => simp [intOf]; omega
                · by_cases hq : Tx.lowB c = Tx.lowB e
                  · have t3 : (((Tx.lowB e).toNat : Int) == ((Tx.lowB c).toNat : Int)) = true := by rw [hq]; simp
                    have HQ2 := Lib.hid hq
                    clear hq
                    have e1 : IntKind.i64.wrap (((j + 1 : Nat) : Int) - 1) = (j : Int) := by rw [IntWalk.i64_in _ (by omega)]; omega
                    have e2 : IntKind.i64.wrap ((j : Int) + 1 - 1) = (j : Int) := by rw [IntWalk.i64_in _ (by omega)]; omega
                    have e3 : IntKind.i64.wrap (j : Int) = (j : Int) := IntWalk.i64_in _ (by omega)
                    have e4 : ((j : Int)).toNat = j := by omega
                    have b1 : (0 : Int) ≤ (j : Int) := by omega
                    have b10 : (0 : Int) ≤ (j : Int) + 1 := by omega
                    have b11 : (j : Int) + 1 < (n : Int) := by omega
                    have HCS : Hid ((wr.setCell ⟨d, j + 1, none⟩ (.bool true)).drew.cell? ⟨b, j, none⟩ = some (.bool true) ∧ (wr.setCell ⟨d, j + 1, none⟩ (.bool true)).drew.frozen? ⟨d, j + 1, none⟩ = false) := by
                      have := (HOld.out true).cell j (by omega)
                      rw [HB.out] at this
                      exact ⟨this, by rw [show (wr.setCell ⟨d, j + 1, none⟩ (.bool true)).drew.frozen? ⟨d, j + 1, none⟩ = (wr.setCell ⟨d, j + 1, none⟩ (.bool true)).frozen? ⟨d, j + 1, none⟩ from rfl, World.frozen?_setCell]; exact hfree⟩
                    have e5 : ((j : Int) + 1).toNat = j + 1 := by omega
                    have b2 : (j : Int) ≤ (n : Int) := by omega
                    have b3 : (j : Int) < (n : Int) := by omega
                    have b4 : (j : Int) < (s.size : Int) := by omega
                    have b5 : (i : Int) < (p.size : Int) := by omega
                    have b6 : (0 : Int) ≤ (i : Int) := by omega
                    have b7 : (0 : Int) ≤ ((j + 1 : Nat) : Int) := by omega
                    have b8 : ((j + 1 : Nat) : Int) < (n : Int) := by omega
                    have b9 : (0 : Int) < ((j + 1 : Nat) : Int) := by omega
                    go_wp2_with fail
                    go_region_held3 (fun w' => w'.cell? ⟨b, j, none⟩ = some (.bool true) ∧ w'.frozen? ⟨d, j + 1, none⟩ = false) (first | exact ⟨hcell, hfree⟩ | exact HCS.out) (first | (go_at_call 36; refine (refLow_any _ _).mono ?_; rintro _ w' ⟨rfl, rfl⟩))
                    clear e1 e2 e3 e4 e5
                    go_wp2
                    all_goals first | exact ⟨⟨j + 1 + 1, by first | rfl | go_num, by omega, (HOld.out _).drews 1, (HFin.out _ (by rw [htk.out, Tx.row_byte _ _ _ HQ.out _ _ hje.out, HB.out, HQ2.out]; simp)).drews 1, HCur.out _, below_drews (HBel.out _) 1⟩, by simp [intOf]; omega⟩ | (go_roundw; case rel => exact ⟨j + 1 + 1, by first | rfl | go_num, by omega, (HOld.out _).drews 1, (HFin.out _ (by rw [htk.out, Tx.row_byte _ _ _ HQ.out _ _ hje.out, HB.out, HQ2.out]; simp)).drews 1, HCur.out _, below_drews (HBel.out _) 1⟩; case measure => simp [intOf]; omega)
                  · have t3 : (((Tx.lowB e).toNat : Int) == ((Tx.lowB c).toNat : Int)) = false := by
                      rw [beq_eq_false_iff_ne]
                      intro q
                      exact hq (UInt8.toNat_inj.1 (by omega))
                    have HQ2 := Lib.hid hq
                    clear hq
                    have e1 : IntKind.i64.wrap (((j + 1 : Nat) : Int) - 1) = (j : Int) := by rw [IntWalk.i64_in _ (by omega)]; omega
                    have e2 : IntKind.i64.wrap ((j : Int) + 1 - 1) = (j : Int) := by rw [IntWalk.i64_in _ (by omega)]; omega
                    have e3 : IntKind.i64.wrap (j : Int) = (j : Int) := IntWalk.i64_in _ (by omega)
                    have e4 : ((j : Int)).toNat = j := by omega
                    have b1 : (0 : Int) ≤ (j : Int) := by omega
                    have b10 : (0 : Int) ≤ (j : Int) + 1 := by omega
                    have b11 : (j : Int) + 1 < (n : Int) := by omega
                    have HCS : Hid ((wr.setCell ⟨d, j + 1, none⟩ (.bool false)).drew.cell? ⟨b, j, none⟩ = some (.bool true) ∧ (wr.setCell ⟨d, j + 1, none⟩ (.bool false)).drew.frozen? ⟨d, j + 1, none⟩ = false) := by
                      have := (HOld.out false).cell j (by omega)
                      rw [HB.out] at this
                      exact ⟨this, by rw [show (wr.setCell ⟨d, j + 1, none⟩ (.bool false)).drew.frozen? ⟨d, j + 1, none⟩ = (wr.setCell ⟨d, j + 1, none⟩ (.bool false)).frozen? ⟨d, j + 1, none⟩ from rfl, World.frozen?_setCell]; exact hfree⟩
                    have e5 : ((j : Int) + 1).toNat = j + 1 := by omega
                    have b2 : (j : Int) ≤ (n : Int) := by omega
                    have b3 : (j : Int) < (n : Int) := by omega
                    have b4 : (j : Int) < (s.size : Int) := by omega
                    have b5 : (i : Int) < (p.size : Int) := by omega
                    have b6 : (0 : Int) ≤ (i : Int) := by omega
                    have b7 : (0 : Int) ≤ ((j + 1 : Nat) : Int) := by omega
                    have b8 : ((j + 1 : Nat) : Int) < (n : Int) := by omega
                    have b9 : (0 : Int) < ((j + 1 : Nat) : Int) := by omega
                    go_wp2_with fail
                    go_region_held3 (fun w' => w'.cell? ⟨b, j, none⟩ = some (.bool true) ∧ w'.frozen? ⟨d, j + 1, none⟩ = false) (first | exact ⟨hcell, hfree⟩ | exact HCS.out) (first | (go_at_call 36; refine (refLow_any _ _).mono ?_; rintro _ w' ⟨rfl, rfl⟩))
                    clear e1 e2 e3 e4 e5
                    go_wp2
                    all_goals first | exact ⟨⟨j + 1 + 1, by first | rfl | go_num, by omega, (HOld.out _).drews 1, (HFin.out _ (by rw [htk.out, Tx.row_byte _ _ _ HQ.out _ _ hje.out, HB.out, decide_eq_false H63.out, decide_eq_false HQ2.out]; rfl)).drews 1, HCur.out _, below_drews (HBel.out _) 1⟩, by simp [intOf]; omega⟩ | (go_roundw; case rel => exact ⟨j + 1 + 1, by first | rfl | go_num, by omega, (HOld.out _).drews 1, (HFin.out _ (by rw [htk.out, Tx.row_byte _ _ _ HQ.out _ _ hje.out, HB.out, decide_eq_false H63.out, decide_eq_false HQ2.out]; rfl)).drews 1, HCur.out _, below_drews (HBel.out _) 1⟩; case measure => simp [intOf]; omega)
        · obtain rfl : k = n := by omega
          have hdone : Hid (BRow (fun j => Tx.glob (p.data.toList.take (i + 1)) (s.data.toList.take j)) k d wr) := hnext.out.same (fun j hj => by unfold nextRow; rw [if_pos hj])
          go_wp2
          go_roundw
          case rel => exact ⟨d, i + 1, rfl, by go_num, by omega, hdone.out, hww, hdz, hbel.out⟩
          case measure => simp [intOf]; omega
    · obtain rfl : i = p.size := by omega
      have hlast := hrow.out.cell s.size (by omega)
      have hp1 : Hid (p.data.toList.take p.size = p.data.toList) := List.take_of_length_le (by rw [← hpt.out]; omega)
      have hs1 : Hid (s.data.toList.take s.size = s.data.toList) := List.take_of_length_le (by rw [← hst.out]; omega)
      simp only [hp1.out, hs1.out] at hlast
      go_wp2
      go_ret
      exact ⟨rfl, hbel.out⟩
end Go.Proofs.YtpigplnnmhjbkaaDoor
