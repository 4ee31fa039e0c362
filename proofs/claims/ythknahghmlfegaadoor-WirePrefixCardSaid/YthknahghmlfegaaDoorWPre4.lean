/-
  The law WirePrefix: a way through it.
-/
import Derived.Test.YthknahghmlfegaaDoorWPrefix
import Derived.Deep.RegionHeld3
namespace Go.Proofs.YthknahghmlfegaaDoor
open Go Go.RowKit Go.Shelf

set_option maxHeartbeats 8000000 in
set_option maxRecDepth 100000 in
theorem prefix_more (x z : Wr.Vl) (xa ya : Option Addr) (b off c b' off' c' : Nat) (za ua : Option Addr) (d doff e d' doff' e' : Nat) (W : World) (hE : Env W) (hx : FV W x xa ya b off b' off') (hz : FV W z za ua d doff d' doff') (h1 : Wr.fewB [x] = true) (h2 : Wr.fewB [z] = true) (h3 : x.K % 5 = z.K % 5) (S T : ByteArray) (hS : (⟨(Wr.encV x).toArray⟩ : ByteArray) = S) (hT : (⟨(Wr.encV z).toArray⟩ : ByteArray) = T) (h4 : T.size < S.size) :
    Calls Tryd.prog 7 #[argV x xa ya c c', argV z za ua e e'] W fun e w' => e = .returned (.bool true) ∧ Below W.heap.size W w' := by
  have HE := Lib.hid hE
  have HX := Lib.hid hx
  have HZ := Lib.hid hz

  unfold argV
  obtain ⟨y, hy⟩ : ∃ y : ByteArray, encStr x.S = .string y := ⟨_, rfl⟩
  obtain ⟨v, hv⟩ : ∃ v : ByteArray, encStr z.S = .string v := ⟨_, rfl⟩
  rw [hy, hv]
  have HY := Lib.hid hy
  have HV := Lib.hid hv
  have HFx := Lib.hid (fun w (h : Below W.heap.size W w) => few_one1 x y hy xa ya b off c b' off' c' W w h hx true h1)
  have HFx0 := Lib.hid (fun w (h : Below W.heap.size W w) => few_one0 x y hy xa ya b off c b' off' c' W w h hx true h1)
  have HFz := Lib.hid (fun w (h : Below W.heap.size W w) => few_one1 z v hv za ua d doff e d' doff' e' W w h hz true h2)
  have HFz0 := Lib.hid (fun w (h : Below W.heap.size W w) => few_one0 z v hv za ua d doff e d' doff' e' W w h hz true h2)
  have HKx := Lib.hid (fun w => kind_any x.K x.N y xa ya x.L.length c x.T.length c' w)
  have HKz := Lib.hid (fun w => kind_any z.K z.N v za ua z.L.length e z.T.length e' w)
  obtain ⟨q1, hq1⟩ : ∃ q1, x.K % 5 = q1 := ⟨_, rfl⟩
  obtain ⟨q2, hq2⟩ : ∃ q2, z.K % 5 = q2 := ⟨_, rfl⟩
  rw [hq1] at HKx
  rw [hq2] at HKz
  have hlx : Wr.lowV x = true := (Wr.fewB_parts h1).2 x (by simp)
  have hlz : Wr.lowV z = true := (Wr.fewB_parts h2).2 z (by simp)
  have HWx := Lib.hid (fun w (h : Below W.heap.size W w) => write_any x xa ya b off c b' off' c' w (hE.new h) (hx.below h) hlx)
  have HWz := Lib.hid (fun w (h : Below W.heap.size W w) => write_any z za ua d doff e d' doff' e' w (hE.new h) (hz.below h) hlz)
  unfold argV at HWx HWz
  rw [hy] at HWx
  rw [hv] at HWz
  rw [hS] at HWx
  rw [hT] at HWz
  have hSs : S.size ≤ 170000 := by rw [← hS, Wr.bs_len]; exact Wr.encV_len hx.fit hlx
  have hTs : T.size ≤ 170000 := by rw [← hT, Wr.bs_len]; exact Wr.encV_len hz.fit hlz
  have h3' : q2 = q1 := by rw [← hq1, ← hq2]; exact h3.symm
  subst h3'
  clear hq1 hq2 hlx hlz
  clear hE hx hz hy hv h1 h2 hS hT
  go_enter Tryd.func7, Tryd.ntmps7
  go_wp2_with fail
  have hB0 : Below W.heap.size W ((W.alloc (.cells #[.int .i64 x.K, .int .i64 x.N, .string y, .slice xa x.L.length c, .slice ya x.T.length c'] 25)).alloc (.cells #[.int .i64 z.K, .int .i64 z.N, .string v, .slice za z.L.length e, .slice ua z.T.length e'] 25)) := ((Below.refl _ W).alloc (Nat.le_refl _) _).alloc (by simp) _
  have HB0 := Lib.hid hB0
  clear hB0
  refine (small_any _ (HE.out.new HB0.out)).mono ?_
  rintro q w1 ⟨rfl, hb⟩
  have HKp : Hid (Keep (Box W.heap.size x.K x.N y (.slice xa x.L.length c) (.slice ya x.T.length c')) (Box (W.heap.size + 1) z.K z.N v (.slice za z.L.length e) (.slice ua z.T.length e')) W w1) := by
    refine Keep.next (w := (W.alloc (.cells #[.int .i64 x.K, .int .i64 x.N, .string y, .slice xa x.L.length c, .slice ya x.T.length c'] 25)).alloc (.cells #[.int .i64 z.K, .int .i64 z.N, .string v, .slice za z.L.length e, .slice ua z.T.length e'] 25)) ⟨HB0.out, by simp, ?_, ?_⟩ hb
    · exact ⟨by simp, by simp, by simp, by simp, by simp⟩
    · exact ⟨by simp, by simp, by simp, by simp, by simp⟩
  obtain ⟨hbW, _, ⟨k0, k1, k2, k3, k4⟩, ⟨m0, m1, m2, m3, m4⟩⟩ := id HKp.out
  clear hb
  go_wp2_with fail
  go_region_held3 (fun w' => w'.cell? ⟨W.heap.size, 0, none⟩ = some (.int .i64 x.K) ∧ w'.cell? ⟨W.heap.size, 1, none⟩ = some (.int .i64 x.N) ∧ w'.cell? ⟨W.heap.size, 2, none⟩ = some (.string y) ∧ w'.cell? ⟨W.heap.size, 3, none⟩ = some (.slice xa x.L.length c) ∧ w'.cell? ⟨W.heap.size, 4, none⟩ = some (.slice ya x.T.length c') ∧
      w'.cell? ⟨W.heap.size + 1, 0, none⟩ = some (.int .i64 z.K) ∧ w'.cell? ⟨W.heap.size + 1, 1, none⟩ = some (.int .i64 z.N) ∧ w'.cell? ⟨W.heap.size + 1, 2, none⟩ = some (.string v) ∧ w'.cell? ⟨W.heap.size + 1, 3, none⟩ = some (.slice za z.L.length e) ∧ w'.cell? ⟨W.heap.size + 1, 4, none⟩ = some (.slice ua z.T.length e'))
    (first | go_keep | exact ⟨HKp.out.2.2.1.1, HKp.out.2.2.1.2.1, HKp.out.2.2.1.2.2.1, HKp.out.2.2.1.2.2.2.1, HKp.out.2.2.1.2.2.2.2, HKp.out.2.2.2.1, HKp.out.2.2.2.2.1, HKp.out.2.2.2.2.2.1, HKp.out.2.2.2.2.2.2.1, HKp.out.2.2.2.2.2.2.2⟩)
    (first
      | (go_at_call 10; (first | (with_reducible refine (HFx.out w1 hbW).mono ?_) | (with_reducible refine (HFx0.out w1 hbW).mono ?_)); rintro q w2 ⟨rfl, hb⟩; replace HKp := Lib.hid (HKp.out.next hb); obtain ⟨hbW, _, ⟨k0, k1, k2, k3, k4⟩, ⟨m0, m1, m2, m3, m4⟩⟩ := id HKp.out)
      | (go_at_call 10; (first | (with_reducible refine (HFz.out w2 hbW).mono ?_) | (with_reducible refine (HFz0.out w2 hbW).mono ?_)); rintro q w3 ⟨rfl, hb⟩; replace HKp := Lib.hid (HKp.out.next hb); obtain ⟨hbW, _, ⟨k0, k1, k2, k3, k4⟩, ⟨m0, m1, m2, m3, m4⟩⟩ := id HKp.out)
      | (go_at_call 23; (first | (with_reducible refine (HKx.out _).mono ?_) | (with_reducible refine (HKz.out _).mono ?_)); rintro q wk ⟨rfl, hb⟩; replace HKp := Lib.hid (by first | exact HKp.out.next hb | exact (HKp.out.drews (fun n h => box_drews n h) (fun n h => box_drews n h) 1).next hb); obtain ⟨hbW, _, ⟨k0, k1, k2, k3, k4⟩, ⟨m0, m1, m2, m3, m4⟩⟩ := id HKp.out))
  all_goals
    go_wp2_with fail
    refine (HWx.out _ (by first | exact HKp.out.1 | exact below_drewN HKp.out.1 _)).mono ?_
    rintro q ws ⟨rfl, hb⟩
    replace HKp := Lib.hid (by first | exact HKp.out.next hb | exact (HKp.out.drews (fun n h => box_drews n h) (fun n h => box_drews n h) 1).next hb)
    obtain ⟨hbW, _, ⟨k0, k1, k2, k3, k4⟩, ⟨m0, m1, m2, m3, m4⟩⟩ := id HKp.out
    clear hb
    go_wp2_with fail
    refine (HWz.out _ HKp.out.1).mono ?_
    rintro q wt ⟨rfl, hb⟩
    replace HKp := Lib.hid (by first | exact HKp.out.next hb | exact (HKp.out.drews (fun n h => box_drews n h) (fun n h => box_drews n h) 1).next hb)
    obtain ⟨hbW, _, ⟨k0, k1, k2, k3, k4⟩, ⟨m0, m1, m2, m3, m4⟩⟩ := id HKp.out
    clear hb
    go_wp2
    go_ret
    exact ⟨rfl, HKp.out.1⟩
end Go.Proofs.YthknahghmlfegaaDoor
