/-
  DeleteFunc walked; forget.
-/
import Derived.Test.YtbpodclodflgfaaKG
namespace Go.Proofs.Ytbpodclodflgfaa
open Go Go.RowKit
theorem PR.of_own' {w : World} {base : Nat} {gq n cap : Nat} {L : List Dk.Piece} (hn : L.length = n) (h : w.ownsRow base 63 3 (.slice (some ⟨gq, 0, none⟩) n cap) L.length (pv L)) : PR w (some ⟨gq, 0, none⟩) gq L := by
  subst hn
  obtain ⟨qa, gq', cap', hv, hp, _, _, hq⟩ := PR.of_own h
  injection hv with h1 _ h2
  subst h1
  rcases hq with hq | hq
  · cases hq
  · injection hq with hq
    injection hq with hq
    subst hq
    exact hp
theorem own_free {w : World} {base : Nat} {e : TypeId} {size gq n m cap : Nat} {xs : List Value} (h : w.ownsRow base e size (.slice (some ⟨gq, 0, none⟩) m cap) n xs) (i : Nat) : w.frozen? ⟨gq, i, none⟩ = false := by
  rcases h.2 with ⟨h0, _⟩ | ⟨g', cap', cur, hv, hbg, hg, _⟩
  · cases h0
  · injection hv with hv1 _ hv2
    injection hv1 with hv1
    injection hv1 with hv1
    subst hv1
    simp [World.frozen?, hg]
theorem made3 {w w2 : World} {a b c : Value} {t : TypeId} (h : Below (w.alloc (.cells #[a, b, c] t)).heap.size (w.alloc (.cells #[a, b, c] t)) w2) :
    w2.cell? ⟨w.heap.size, 0, none⟩ = some a ∧ w2.cell? ⟨w.heap.size, 1, none⟩ = some b ∧ w2.cell? ⟨w.heap.size, 2, none⟩ = some c := by
  have hB : Blk w2 w.heap.size t [a, b, c] := (h.block _ (by rw [alloc_size]; omega)).trans (Blk.made w #[a, b, c] t)
  exact ⟨hB.cell rfl, hB.cell rfl, hB.cell rfl⟩
set_option maxHeartbeats 4000000 in
set_option maxRecDepth 100000 in
theorem delete_any (Q : List Dk.Piece) (f cb : Nat) (v : Value) (w : World) (h : w.ownsRow 0 63 3 v Q.length (pv Q)) (hN : Q.length ≤ 1000000) (hc : w.cell? ⟨cb, 0, none⟩ = some (.int .i64 (f : Int))) (hb : cb < w.heap.size) (hcb : v.ownBlock ≠ some cb) :
    Calls Try.prog 63 #[v, .func (.func 64) #[] #[.pointer (some ⟨cb, 0, none⟩)]] w fun e w' =>
      ∃ v', e = .returned v' ∧ w'.ownsRow 0 63 3 v' (Dk.without Q f).length (pv (Dk.without Q f)) ∧ w.grownBy w' v.ownBlock ∧ v'.ownBlock = v.ownBlock := by
  obtain ⟨qa, gq, cap, rfl, hP, hcap, hcm, _⟩ := PR.of_own h
  obtain ⟨n, hn⟩ : ∃ n, Q.length = n := ⟨_, rfl⟩
  have HN := Lib.hid hn
  have HO := Lib.hid h
  have HP := Lib.hid hP
  have C1 := Lib.hid (idx_del Q f cb gq n cap qa w hP hn (by omega) hc hb)
  have HC := Lib.hid hc
  have HCB := Lib.hid hcb
  rw [hn] at hcap hN HO HCB ⊢
  clear h hP hc hcb hn
  go_enter Try.func63, Try.ntmps63
  go_wp2_with fail
  refine C1.out.mono ?_
  rintro _ w1 ⟨r, rfl, hI, hb1⟩
  have HB1 := Lib.hid hb1
  clear hb1
  rcases hI with ⟨rfl, hnone⟩ | ⟨j0, p0, rfl, hp0, hf0, hall⟩
  · have HW := Lib.hid (Dk.without_none Q f hnone)
    clear hnone
    go_wp2
    go_ret
    refine ⟨_, rfl, ?_, grown_below (grown_refl w _) HB1.out, rfl⟩
    rw [HW.out, HN.out]
    exact own_same HO.out fun b hb => HB1.out.block b (own_lt HO.out hb)
  · have hj0 : j0 < n := by have := (List.getElem?_eq_some_iff.1 hp0).1; have := HN.out; omega
    have HS := Lib.hid (Dk.Deleting.start hp0 hf0 hall)
    clear hp0 hf0 hall
    obtain rfl := HP.out.addr (by rw [HN.out]; omega)
    have hne : cb ≠ gq := fun e => HCB.out (by rw [e]; rfl)
    have hm1 : ((j0 : Int) == -1) = false := by rw [beq_eq_false_iff_ne]; omega
    go_wp2
    go_loopw [5, 6, 7] (fun x5 x6 x7 wr => ∃ (i j : Nat) (L : List Dk.Piece), x5 = .int .i64 i ∧ x6 = .int .i64 j ∧ i < j ∧ j ≤ n ∧ Hid (Dk.Deleting Q L f i j) ∧ Hid (wr.ownsRow 0 63 3 (.slice (some ⟨gq, 0, none⟩) n cap) L.length (pv L)) ∧ Hid (w.grownBy wr (some gq))) (fun _ x6 _ _ => n - (intOf x6).toNat)
    case atStart => exact ⟨j0, j0 + 1, Q, rfl, by go_num, by omega, by omega, HS.out, by rw [HN.out]; exact own_same HO.out fun b hb => HB1.out.block b (own_lt HO.out hb), grown_below (grown_refl w _) HB1.out⟩
    case round =>
      obtain ⟨i, j, L, rfl, rfl, hij, hj, hD, hO, hG⟩ := hrel
      have hL : L.length = n := hD.out.len.trans HN.out
      by_cases hlt : j < n
      · obtain ⟨p, hp⟩ : ∃ p, Q[j]? = some p := ⟨_, List.getElem?_eq_getElem (by rw [HN.out]; exact hlt)⟩
        obtain ⟨c0, c1, c2⟩ := (PR.of_own' hL hO.out).c j p (hD.out.at_.trans hp)
        have hwl : w.heap.size ≤ wr.heap.size := hG.out.size
        have hcw : wr.cell? ⟨cb, 0, none⟩ = some (.int .i64 (f : Int)) := (World.cell?_of_block (a := ⟨cb, 0, none⟩) (hG.out.block cb hb (fun e => hne (by injection e)))).trans HC.out
        have hgl : gq < wr.heap.size := own_lt hO.out rfl
        have CL := Lib.hid (fun o : Obj => del_del p cb f (wr.alloc o) ((World.cell?_of_block (a := ⟨cb, 0, none⟩) (heap_alloc_old wr o (by show cb < wr.heap.size; omega))).trans hcw) (by rw [alloc_size]; omega))
        obtain ⟨pi, hpi⟩ : ∃ pi, L[i]? = some pi := ⟨_, List.getElem?_eq_getElem (by omega)⟩
        have KEY := Lib.hid (fun (w2 : World) (o : Obj) (hb2 : Below (wr.alloc o).heap.size (wr.alloc o) w2) => show (w2.ownsRow 0 63 3 (.slice (some ⟨gq, 0, none⟩) n cap) L.length (pv L)) ∧ w.grownBy w2 (some gq) from
          ⟨own_same hO.out fun b hb => by
            have hb' : b < wr.heap.size := own_lt hO.out hb
            exact (hb2.block b (by rw [alloc_size]; omega)).trans (heap_alloc_old wr o hb'), grown_below (grown_two hG.out (World.grownBy_alloc wr o (some gq)) (.inl rfl)) hb2⟩)
        have HPI := Lib.hid hpi
        have HPp := Lib.hid hp
        have HCW := Lib.hid hcw
        have HL := Lib.hid hL
        have hw7 : wr.heap.size ≠ gq := by omega
        clear hp hcw hL hpi
        by_cases hpf : p.f = f
        · have HF := Lib.hid hpf
          have hd : decide (p.f = f) = true := by simpa using hpf
          rw [hd] at CL
          clear hpf hd
          go_wp2_with (go_at_call 64; refine (CL.out _).mono ?_; rintro _ w2 ⟨rfl, hb2⟩; have HK2 := Lib.hid (KEY.out _ _ hb2); clear hb2)
          go_roundw
          case rel => exact ⟨i, j + 1, L, rfl, by go_num, by omega, by omega, hD.out.drop HPp.out HF.out, HK2.out.1, HK2.out.2⟩
          case measure => simp [intOf]; omega
        · have HF := Lib.hid hpf
          have hd : decide (p.f = f) = false := by simpa using hpf
          rw [hd] at CL
          clear hpf hd
          go_wp2_with (go_at_call 64; refine (CL.out _).mono ?_; rintro _ w2 ⟨rfl, hb2⟩; have HK2 := Lib.hid (KEY.out _ _ hb2); obtain ⟨d0, d1, d2⟩ := made3 hb2; obtain ⟨e0, e1, e2⟩ := (PR.of_own' HL.out HK2.out.1).c i _ HPI.out; have f0 := own_free HK2.out.1 (i * 3); have f1 := own_free HK2.out.1 (i * 3 + 1); have f2 := own_free HK2.out.1 (i * 3 + 2); clear hb2)
          go_roundw
          case rel => exact ⟨i + 1, j + 1, L.set i p, by go_num, by go_num, by omega, by omega, hD.out.keep HPp.out HF.out, (by
            have h1 := HK2.out.1
            rw [← HL.out] at h1 ⊢
            have h2 := own_set3 h1 i (by rw [HL.out]; omega) p
            exact h2), grown_set (grown_set (grown_set HK2.out.2 _ _) _ _) _ _⟩
          case measure => simp [intOf]; omega
      · obtain rfl : j = n := by omega
        have HH := Lib.hid hD.out.head
        have HO1 := Lib.hid (show wr.ownsRow 0 63 3 (.slice (some ⟨gq, 0, none⟩) L.length cap) L.length (pv L) from by have h9 := hO.out; rw [← hL] at h9; exact h9)
        have HL := Lib.hid hL
        clear hL
        go_wp2_with (refine wpList_clear rfl (.tmp 38) rfl HO1.out i _ _ _ rfl (by rw [HL.out]; omega) (by rw [HL.out]) (by intro hp; first | rfl | (rw [if_neg (by omega)]) | (split <;> first | rfl | (exfalso; omega))) ?_; intro w3 HO3 HG3)
        go_ret
        refine ⟨_, rfl, ?_, grown_two hG.out HG3.out (.inl rfl), rfl⟩
        have h3 := HO3.out
        rw [HH.out, List.take_of_length_le (by rw [HN.out]; omega)] at h3
        exact h3
end Go.Proofs.Ytbpodclodflgfaa
