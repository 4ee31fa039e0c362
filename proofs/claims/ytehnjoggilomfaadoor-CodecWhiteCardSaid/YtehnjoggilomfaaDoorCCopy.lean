/-
  maps.Copy at maps of bytes to bytes; codec.hexValues.
-/
import Derived.Test.YtehnjoggilomfaaDoorCMaps
import Derived.Maps.Ext
namespace Go.Proofs.YtehnjoggilomfaaDoor
open Go Go.RowKit Go.Shelf
open Go.Maps (Keyed int_keyed keyOf_int_mk)

theorem byte_of_wf {x : Int} (h : (Lit.int .u8 x).wf = true) : ∃ c : UInt8, x = (c.toNat : Int) := by
  have e1 : IntKind.u8.min = 0 := by decide
  have e2 : IntKind.u8.max = 255 := by decide
  simp [Lit.wf, e1, e2] at h
  exact ⟨UInt8.ofNat x.toNat, by simp; omega⟩
def over (f g : UInt8 → Option UInt8) : UInt8 → Option UInt8 := fun c => match g c with | some v => some v | none => f c
/-- What the destination holds while some keys are left. -/
def Mid (f g : UInt8 → Option UInt8) (left : Lit → Bool) (h : UInt8 → Option UInt8) : Prop := ∀ c : UInt8, h c = cond (left (.int .u8 c.toNat)) (f c) (over f g c)

theorem Tab.mono {b n n' : Nat} {f : UInt8 → Option UInt8} {w : World} (h : Tab b n f w) (hn : n ≤ n') : Tab b n' f w := let ⟨D, h1, h2⟩ := h; ⟨D, h1.mono hn, h2⟩
theorem Tab.congr {b n : Nat} {f g : UInt8 → Option UInt8} {w : World} (h : Tab b n f w) (e : ∀ c, f c = g c) : Tab b n g w := by rw [← funext e]; exact h
theorem mid_end {f g h : UInt8 → Option UInt8} {left : Lit → Bool} (hM : Mid f g left h) (hl : ∀ kl, left kl = false) : ∀ c, h c = over f g c := by
  intro c
  rw [hM c, hl]; rfl
theorem mid_next {f g h : UInt8 → Option UInt8} {left : Lit → Bool} {D : DataW Unit} {c d : UInt8} (hM : Mid f g left h)
    (h2 : Maps.has D (.int .u8 c.toNat) = (g c).isSome ∧ D.atKey (.int .u8 c.toNat) (.lit (.int .u8 0)) = .lit (.int .u8 ((g c).getD 0).toNat))
    (hat : ∀ zd, D.atKey (.int .u8 c.toNat) zd = .lit (.int .u8 d.toNat)) : Mid f g (fun z => left z && !z.sameKey (.int .u8 c.toNat)) (Cd.upd h c d) := by
  intro x
  have hh := Maps.has_true_of_atKey hat
  rw [h2.1] at hh
  obtain ⟨v, hv⟩ := Option.isSome_iff_exists.1 hh
  have hvd : v = d := by
    have := h2.2.symm.trans (hat _)
    rw [hv] at this
    injection this with this
    injection this with _ this
    exact UInt8.toNat_inj.1 (by simp only [Option.getD_some] at this; omega)
  unfold Cd.upd
  by_cases e : x = c
  · subst e
    have hk : Lit.sameKey (.int .u8 (x.toNat : Int)) (.int .u8 (x.toNat : Int)) = true := by simp [Lit.sameKey]
    rw [if_pos rfl]
    dsimp only
    rw [hk, Bool.not_true, Bool.and_false, cond_false]
    unfold over
    rw [hv, hvd]
  · rw [if_neg e, hM x]
    have hk : Lit.sameKey (.int .u8 (x.toNat : Int)) (.int .u8 (c.toNat : Int)) = false := Maps.sameKey_ne (key_ne e)
    dsimp only
    rw [hk, Bool.not_false, Bool.and_true]

set_option maxHeartbeats 2000000 in
set_option maxRecDepth 100000 in
theorem copy_any (bd bs nd ns : Nat) (f g : UInt8 → Option UInt8) (w : World) (hne : bd ≠ bs) (hd : Tab bd nd f w) (hs : Tab bs ns g w) (hn : nd + ns ≤ 100000) :
    Calls Tryd.prog 45 #[.map (some bd), .map (some bs)] w fun e w' => e = .returned (.tuple #[]) ∧ Tab bd (nd + ns) (over f g) w' ∧ w.grownBy w' (some bd) := by
  obtain ⟨D, hD, hD2⟩ := hs
  have hDl := hD.lt
  have hdl := hd.lt
  have hsz := hD.size_le
  have HD2 := Lib.hid hD2
  clear hD2
  go_enter Tryd.func45, Tryd.ntmps45
  go_wp2_with (first
    | (at_range; refine wpList_range_own _ rfl _ 35 rfl 5 5 law8 Tryd.underlying35 _ bs ns D rfl hD ?_; intro w0 hrg0 hg0 hs0))
  have hd0 := hd.grown hg0 (by simp)
  go_frame
  go_loopw [4, 5] (fun _ _ wr => ∃ (left : Lit → Bool) (cnt : Nat) (h : UInt8 → Option UInt8), wr.ranges Tryd.prog 5 (plainElem Tryd.prog 5) bs w.heap.size ns D left cnt ∧ cnt ≤ Maps.size D ∧
      Tab bd (nd + (Maps.size D - cnt)) h wr ∧ Hid (Mid f g left h) ∧ w.grownBy wr (some bd)) (fun _ _ wr => wr.rangeLeft bs w.heap.size)
  case atStart =>
    refine ⟨_, _, f, hrg0, Nat.le_refl _, by simpa using hd0, ?_, hg0.but _⟩
    intro c
    have := (HD2.out c).1
    by_cases hh : Maps.has D (.int .u8 c.toNat) = true
    · rw [hh]; rfl
    · rw [Bool.eq_false_iff.2 hh, cond_false]
      unfold over
      cases hg : g c with
      | some v => rw [hg] at this; exact absurd this hh
      | none => rfl
  case round =>
    obtain ⟨left, cnt, h, hrg, hcs, hT, hM, hgr⟩ := hrel
    go_wp2_with (first
      | (at_next; refine wpList_next_ranges_ii _ rfl _ rfl 5 5 .u8 .u8 law8 Tryd.underlying5 Tryd.underlying5 bs w.heap.size ns _ _ _ rfl hrg ?_ ?_))
    · intro hc0 hl0
      have HL := Lib.hid hl0
      clear hl0
      go_wp2
      go_end0
      exact ⟨rfl, (Tab.congr hT (mid_end hM.out HL.out)).mono (by omega), hgr⟩
    · intro x v w1 cnt1 hwx hwv hlx hat hrg1 hlt hg1 hs1 hen
      obtain ⟨c, rfl⟩ := byte_of_wf hwx
      obtain ⟨d, rfl⟩ := byte_of_wf hwv
      have HA := Lib.hid hat
      clear hat
      have hT1 := hT.grown hg1 (by intro e; have := Option.some.inj e; omega)
      go_wp2_with (first
        | (at_mapUpdate; refine wpList_tab_put _ rfl _ _ _ rfl bd _ _ c d rfl hT1 (by omega) _ _ rfl rfl rfl rfl ?_; intro w2 hT2 hg2; go_frame))
      have hrg2 := hrg1.kept hg2 (fun e => by have := Option.some.inj e; omega) (fun e => by have := Option.some.inj e; omega)
      go_roundw
      case rel =>
        refine ⟨_, cnt1, Cd.upd h c d, hrg2, by omega, ?_, ?_, ?_⟩
        · exact hT2.mono (by omega)
        · exact mid_next hM.out (HD2.out c) HA.out
        · exact (hgr.andThen hg1 (fun j e => .inl (by cases e; exact Nat.le_refl _))).andThen hg2 (fun j e => .inr e)
      case measure => rw [hrg2.left_eq, hrg.left_eq]; exact hlt

theorem low_hexs : Tx.lowL Cd.hexs = Cd.hexl := by decide
theorem hexF_over : ∀ c, over (Cd.valF Cd.hexs 16) (Cd.valF Cd.hexl 16) c = Cd.hexF c := fun _ => rfl

set_option maxHeartbeats 1000000 in
set_option maxRecDepth 100000 in
theorem hexValues_any (w : World) :
    Calls Tryd.prog 29 #[] w fun e w' => e = .returned (.map (some w.heap.size)) ∧ Tab w.heap.size 32 Cd.hexF w' ∧ Below w.heap.size w w' := by
  have HV := Lib.hid (valuesOf_any ⟨#[48, 49, 50, 51, 52, 53, 54, 55, 56, 57, 65, 66, 67, 68, 69, 70]⟩ w (by decide))
  have HL := Lib.hid (fun w => lowerS_any ⟨#[48, 49, 50, 51, 52, 53, 54, 55, 56, 57, 65, 66, 67, 68, 69, 70]⟩ w (by decide))
  have HW := Lib.hid (fun w => valuesOf_any ⟨#[48, 49, 50, 51, 52, 53, 54, 55, 56, 57, 97, 98, 99, 100, 101, 102]⟩ w (by decide))
  go_enter Tryd.func29, Tryd.ntmps29
  go_wp2_with fail
  refine HV.out.mono ?_
  rintro e w1 ⟨rfl, hT1, hB1⟩
  have hT1 : Tab w.heap.size 16 (Cd.valF Cd.hexs 16) w1 := hT1
  have hl1 := hT1.lt
  go_wp2_with fail
  refine (HL.out _).mono ?_
  rintro e w2 ⟨rfl, hB2⟩
  have hT2 := hT1.below hB2 hl1
  have e2 : (⟨(Tx.lowL ((⟨#[48, 49, 50, 51, 52, 53, 54, 55, 56, 57, 65, 66, 67, 68, 69, 70]⟩ : ByteArray).data.toList)).toArray⟩ : ByteArray) = ⟨#[48, 49, 50, 51, 52, 53, 54, 55, 56, 57, 97, 98, 99, 100, 101, 102]⟩ := by decide
  rw [e2]
  clear e2
  have hl2 := hT2.lt
  go_wp2_with fail
  refine (HW.out _).mono ?_
  rintro e w3 ⟨rfl, hT3, hB3⟩
  have hT3 : Tab w2.heap.size 16 (Cd.valF Cd.hexl 16) w3 := hT3
  have hT2' := hT2.below hB3 hl2
  go_wp2_with fail
  refine (copy_any _ _ _ _ _ _ _ (by omega) hT2' hT3 (by omega)).mono ?_
  rintro e w4 ⟨rfl, hT4, hg4⟩
  have hT5 := Tab.congr hT4 hexF_over
  have hBB : Below w.heap.size w w4 := by
    have hb := (hB1.trans (hB2.mono hB1.size)).trans (hB3.mono (Nat.le_trans hB1.size hB2.size))
    exact hb.grown hg4 hb.size (fun j hj => by cases hj; exact Nat.le_refl _)
  have HT := Lib.hid hT5
  clear hT1 hT2 hT3 hT2' hT4 hT5
  go_wp2
  go_ret
  exact ⟨rfl, HT.out, hBB⟩
end Go.Proofs.YtehnjoggilomfaaDoor
