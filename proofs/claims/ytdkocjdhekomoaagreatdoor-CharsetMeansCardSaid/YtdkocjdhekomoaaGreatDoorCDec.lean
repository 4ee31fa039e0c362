/-
  codec.Unbase64.
-/
import Derived.Test.YtdkocjdhekomoaaGreatDoorCDecP
import Derived.Laws.BitsAllLaws
import Derived.Deep.RegionWith
import Derived.Deep.RegionHeld3
namespace Go.Proofs.YtdkocjdhekomoaaGreatDoor
open Go Go.RowKit Go.Shelf
theorem take_next (s : ByteArray) (k : Nat) (h : k < s.size) : s.data.toList.take (k + 1) = s.data.toList.take k ++ [s[k]'h] := by
  rw [List.take_succ_eq_append_getElem (by simpa using h)]; rfl
theorem or_add (a b i : Nat) (h : b < 2 ^ i) : (2 ^ i * a) ||| b = 2 ^ i * a + b := (Nat.two_pow_add_eq_or_of_lt h a).symm
theorem shl_or6 (g v : Nat) (hv : v < 64) : bits .or .u32 ((g : Int) * 64 % (4294967296 : Int)) (v : Int) = (((g * 64 + v) % 4294967296 : Nat) : Int) := by
  obtain ⟨q, hq⟩ : ∃ q, g % 67108864 = q := ⟨_, rfl⟩
  have e1 : (g : Int) * 64 % (4294967296 : Int) = ((64 * q : Nat) : Int) := by omega
  rw [e1, u32_or_nat _ _ (by omega) (by omega), show 64 * q ||| v = 64 * q + v from or_add q v 6 (by omega)]
  omega
theorem strip_any (s : ByteArray) (m : Int) (w : World) (hs : s.size ≤ 1000000) (hm : w.cell? ⟨3, 0, none⟩ = some (.int .i64 m)) :
    Calls Tryz.prog 114 #[.string ⟨(Tx.squeeze s.data.toList).toArray⟩, .string ⟨#[32]⟩, .string ⟨#[]⟩] w fun e w' => e = .returned (.string ⟨(Cd.bare s.data.toList).toArray⟩) ∧ Below w.heap.size w w' := by
  have h1 := Cd.squeeze_le s.data.toList
  rw [← Lib.size_eq] at h1
  have h2 : (⟨(Tx.squeeze s.data.toList).toArray⟩ : ByteArray).size ≤ 2000001 := by rw [Tx.bs_len]; omega
  refine (Any.strings_ReplaceAll Tryz.lays155 Tryz.Builder_X155 ⟨(Tx.squeeze s.data.toList).toArray⟩ ⟨#[32]⟩ ⟨#[]⟩ m w (by omega) hm (by decide) ?_).mono ?_
  · show _ + _ * 0 ≤ _
    omega
  · rintro e w' ⟨rfl, hB⟩
    refine ⟨?_, hB⟩
    show Ending.returned (.string ⟨(Lib.replaceAll (Tx.squeeze s.data.toList) [32] []).toArray⟩) = _
    rw [Cd.bare_eq]
theorem repeat_any (n : Nat) (w : World) (h : n ≤ 3) :
    Calls Tryz.prog 116 #[.string ⟨#[61]⟩, .int .i64 n] w fun e w' => e = .returned (.string ⟨(List.replicate n (61 : UInt8)).toArray⟩) ∧ Below w.heap.size w w' := by
  refine (Any.strings_Repeat Tryz.lays105 Tryz.Builder_X105 ⟨#[61]⟩ n w (by omega) (by show 1 * n ≤ _; omega)).mono ?_
  rintro e w' ⟨rfl, hB⟩
  refine ⟨?_, hB⟩
  have : Lib.repeatL [61] n = List.replicate n (61 : UInt8) := by
    clear h hB
    induction n with
    | zero => rfl
    | succ n ih => rw [Lib.repeatL, ih, List.replicate_succ]; rfl
  show Ending.returned (.string ⟨(Lib.repeatL [61] n).toArray⟩) = _
  rw [this]

theorem tail_nil (t : ByteArray) (n : Nat) : (t.extract n t.size).toList.isEmpty = (decide (0 < 3) && (t.data.toList.drop n == List.replicate 0 61)) := by
  rw [Lib.toList_data, extract_end]
  cases t.data.toList.drop n <;> rfl
theorem tail_eq (t : ByteArray) (n r : Nat) (hr : r < 3) : ((t.extract n t.size).toList == List.replicate r 61) = (decide (r < 3) && (t.data.toList.drop n == List.replicate r 61)) := by
  rw [Lib.toList_data, extract_end, decide_eq_true hr, Bool.true_and]
theorem below_tail {B b c : Nat} {w w3 wr w4 w5 : World} (h1 : Below B w w3) (h2 : Below b w3 wr) (h4 : Below b wr.drew w4) (h5 : Below c w4 w5) (hB : B ≤ b) (hc : b ≤ c) : Below B w w5 :=
  h1.trans ((h2.trans (((below_drews (Below.refl b wr) 1).trans h4).trans (h5.mono hc))).mono hB)

set_option maxHeartbeats 4000000 in
set_option maxRecDepth 100000 in
theorem unbase64_any (s : ByteArray) (w : World) (hs : s.size ≤ 1000000) (hmx : MaxAt w) :
    Calls Tryz.prog 93 #[.string s] w fun e w' => e = .returned (.tuple #[.string ⟨(Cd.unbase64 s.data.toList).1.toArray⟩, .bool (Cd.unbase64 s.data.toList).2]) ∧ Below w.heap.size w w' := by
  have HD := Lib.hid (valuesOf_any ⟨#[65, 66, 67, 68, 69, 70, 71, 72, 73, 74, 75, 76, 77, 78, 79, 80, 81, 82, 83, 84, 85, 86, 87, 88, 89, 90, 97, 98, 99, 100, 101, 102, 103, 104, 105, 106, 107, 108, 109, 110, 111, 112, 113, 114, 115, 116, 117, 118, 119, 120, 121, 122, 48, 49, 50, 51, 52, 53, 54, 55, 56, 57, 43, 47]⟩ w (by decide))
  have hp := hmx.pos
  have HM := Lib.hid hmx
  clear hmx
  go_enter Tryz.func93, Tryz.ntmps93
  go_wp2_with fail
  refine HD.out.mono ?_
  rintro e w1 ⟨rfl, hT, hB1⟩
  have hT : Tab w.heap.size 64 Cd.val64 w1 := hT
  have htl := hT.lt
  clear HD
  go_wp2_with fail
  refine (squeeze_any s w1 hs).mono ?_
  rintro e w2 ⟨rfl, hB2⟩
  have hT2 := hT.below hB2 htl
  obtain ⟨m, hm⟩ := (HM.out.below hB1 hp).below hB2 (by omega)
  have hBb2 := hB1.trans (hB2.mono hB1.size)
  have HR := Lib.hid (strip_any s m w2 hs hm)
  clear hm
  go_wp2_with fail
  refine HR.out.mono ?_
  rintro e w3 ⟨rfl, hB3⟩
  have hT3 := hT2.below hB3 hT2.lt
  have htl3 := hT3.lt
  have hBb3 := hBb2.trans (hB3.mono hBb2.size)
  have hbl := Cd.bare_le s.data.toList
  rw [← Lib.size_eq] at hbl
  have HF := Lib.hid (Bld.fresh w3)
  obtain ⟨t, ht⟩ : ∃ t : ByteArray, (⟨(Cd.bare s.data.toList).toArray⟩ : ByteArray) = t := ⟨_, rfl⟩
  have htd : t.data.toList = Cd.bare s.data.toList := by rw [← ht]
  have hts : t.size ≤ s.size := by rw [Lib.size_eq, htd]; exact hbl
  have HTD := Lib.hid htd
  rw [ht]
  obtain ⟨b, hb⟩ : ∃ b, w3.heap.size = b := ⟨_, rfl⟩
  have HS := Lib.hid hb
  rw [hb] at htl3
  clear hT hT2 hB1 hB2 hB3 HM HR hbl htd ht
  go_wp2
  go_loopw [6, 7, 8] (fun gv zv i wr => ∃ (n : Nat) (st : Cd.St), n ≤ t.size ∧ i = .int .i64 n ∧ gv = .int .u32 st.g ∧ zv = .int .i64 st.size ∧ Hid (Cd.decode (t.data.toList.take n) = st) ∧ Hid (∀ c ∈ t.data.toList.take n, Cd.isDig64 c = true) ∧ Hid (st.Ok n) ∧ Bld b b st.out wr ∧ Below b w3 wr) (fun _ _ i _ => t.size - (intOf i).toNat)
  case atStart => exact ⟨0, ⟨0, 0, []⟩, Nat.zero_le _, rfl, rfl, rfl, (rfl : _ = _), (by intro c hc; simp at hc), Cd.St.Ok.start, by rw [← hb]; exact HF.out, by rw [← hb]; exact (Below.refl _ w3).alloc (Nat.le_refl _) _⟩
  case round =>
    obtain ⟨n, st, hn, rfl, rfl, rfl, hde, hall, hok, hBl, hBe⟩ := hrel
    clear hb HF
    have hTr := hT3.below hBe htl3
    have hsz : b ≤ wr.heap.size := by have := hBe.size; have := HS.out; omega
    by_cases hlt : n < t.size
    · obtain ⟨c, hc⟩ : ∃ c, t[n] = c := ⟨_, rfl⟩
      have hget : t.data.toList[n]? = some c := by rw [Tx.get_of t n hlt, hc]
      cases hv : Cd.val64 c with
      | some v =>
        have vl := Cd.val64_lt hv
        have hok2 := hok.out.step v
        have hn2 : Cd.decode (t.data.toList.take (n + 1)) = st.step v := by rw [take_next t n hlt, hc, Cd.decode_snoc _ _ _ hv, hde.out]
        have hall2 : ∀ d ∈ t.data.toList.take (n + 1), Cd.isDig64 d = true := by
          rw [take_next t n hlt, hc]
          intro d hd
          rcases List.mem_append.1 hd with hd | hd
          · exact hall.out d hd
          · rw [List.mem_singleton] at hd; subst hd; unfold Cd.isDig64; rw [hv]; rfl
        have HV := Lib.hid hv
        have HA2 := Lib.hid hall2
        have hgl := hok.out.g
        have hol := hok.out.out
        have hss := hok.out.size
        have hor := shl_or6 st.g v.toNat vl
        obtain ⟨g2, hg2⟩ : ∃ g2 : Nat, (st.g * 64 + v.toNat) % 4294967296 = g2 := ⟨_, rfl⟩
        have g2l : g2 < 4294967296 := by omega
        have hst : st.step v = if st.size + 6 ≥ 8 then ⟨g2, st.size - 2, st.out ++ [UInt8.ofNat (g2 / 2 ^ (st.size - 2) % 256)]⟩ else ⟨g2, st.size + 6, st.out⟩ := by rw [← hg2]; rfl
        rw [hst] at hn2 hok2
        rw [hg2] at hor
        clear hst hg2 hv hget hde hall hok hall2
        obtain ⟨g, z, out⟩ := st
        simp only at hn2 hok2 hor hgl hol hss hBl
        rcases hss with ⟨-, rfl⟩ | ⟨-, rfl⟩ | ⟨-, rfl⟩ | ⟨-, rfl⟩
        · rw [if_neg (by omega)] at hn2 hok2
          have HN := Lib.hid hn2
          have HO := Lib.hid hok2
          clear hn2 hok2
          go_wp2_with (first
            | (at_lookup; refine wpList_tab_yes _ rfl _ _ rfl w.heap.size 64 _ c v HV.out rfl hTr _ rfl rfl ?_))
          go_roundw
          case rel => exact ⟨n + 1, _, by omega, by go_num, rfl, rfl, HN.out, HA2.out, HO.out, hBl, hBe⟩
          case measure => simp [intOf]; omega
        · rw [if_pos (by omega)] at hn2 hok2
          obtain ⟨x, hx⟩ : ∃ x, UInt8.ofNat (g2 / 2 ^ (6 - 2) % 256) = x := ⟨_, rfl⟩
          have hxe : (g2 : Int) / 16 % 256 = (x.toNat : Int) := by rw [← hx]; first | (simp; done) | (simp; omega)
          rw [hx] at hn2 hok2
          have HN := Lib.hid hn2
          have HO := Lib.hid hok2
          clear hn2 hok2 hx
          go_wp2_with (first
            | (at_lookup; refine wpList_tab_yes _ rfl _ _ rfl w.heap.size 64 _ c v HV.out rfl hTr _ rfl rfl ?_)
            | (go_at_call 103; refine (wb_any b b _ x _ hBl (by omega) hsz).mono ?_; rintro e w2 ⟨rfl, hBl2, hB2, -⟩))
          go_roundw
          case rel => exact ⟨n + 1, _, by omega, by go_num, rfl, rfl, HN.out, HA2.out, HO.out, hBl2, hBe.trans hB2⟩
          case measure => simp [intOf]; omega
        · rw [if_pos (by omega)] at hn2 hok2
          obtain ⟨x, hx⟩ : ∃ x, UInt8.ofNat (g2 / 2 ^ (4 - 2) % 256) = x := ⟨_, rfl⟩
          have hxe : (g2 : Int) / 4 % 256 = (x.toNat : Int) := by rw [← hx]; first | (simp; done) | (simp; omega)
          rw [hx] at hn2 hok2
          have HN := Lib.hid hn2
          have HO := Lib.hid hok2
          clear hn2 hok2 hx
          go_wp2_with (first
            | (at_lookup; refine wpList_tab_yes _ rfl _ _ rfl w.heap.size 64 _ c v HV.out rfl hTr _ rfl rfl ?_)
            | (go_at_call 103; refine (wb_any b b _ x _ hBl (by omega) hsz).mono ?_; rintro e w2 ⟨rfl, hBl2, hB2, -⟩))
          go_roundw
          case rel => exact ⟨n + 1, _, by omega, by go_num, rfl, rfl, HN.out, HA2.out, HO.out, hBl2, hBe.trans hB2⟩
          case measure => simp [intOf]; omega
        · rw [if_pos (by omega)] at hn2 hok2
          obtain ⟨x, hx⟩ : ∃ x, UInt8.ofNat (g2 / 2 ^ (2 - 2) % 256) = x := ⟨_, rfl⟩
          have hxe : (g2 : Int) % 256 = (x.toNat : Int) := by rw [← hx]; first | (simp; done) | (simp; omega)
          rw [hx] at hn2 hok2
          have HN := Lib.hid hn2
          have HO := Lib.hid hok2
          clear hn2 hok2 hx
          go_wp2_with (first
            | (at_lookup; refine wpList_tab_yes _ rfl _ _ rfl w.heap.size 64 _ c v HV.out rfl hTr _ rfl rfl ?_)
            | (go_at_call 103; refine (wb_any b b _ x _ hBl (by omega) hsz).mono ?_; rintro e w2 ⟨rfl, hBl2, hB2, -⟩))
          go_roundw
          case rel => exact ⟨n + 1, _, by omega, by go_num, rfl, rfl, HN.out, HA2.out, HO.out, hBl2, hBe.trans hB2⟩
          case measure => simp [intOf]; omega
      | none =>
        have HE0 : ∀ d, t.data.toList[n]? = some d → Cd.isDig64 d = false := by
          intro d hd
          rw [hget] at hd
          cases hd
          unfold Cd.isDig64; rw [hv]; rfl
        have hn2 : n ≤ t.data.toList.length := by rw [← Lib.size_eq]; exact hn
        have hr1 : Cd.unbase64 s.data.toList = (st.out, decide (Cd.missing n < 3) && (t.data.toList.drop n == List.replicate (Cd.missing n) 61)) := by
          obtain ⟨e1, e2⟩ := Cd.takeWhile_at hall.out HE0 hn2
          have e3 : ((t.data.toList.takeWhile Cd.isDig64).length) = n := by rw [e1, List.length_take]; omega
          unfold Cd.unbase64
          rw [← HTD.out]
          simp only [e1] at e3 ⊢
          rw [hde.out, e3]
        have HV := Lib.hid hv
        have HRR := Lib.hid hr1
        have hss := hok.out.size
        clear HE0 hn2 hr1 hv hget hde hall hok
        rcases hss with ⟨hm, -⟩ | ⟨hm, -⟩ | ⟨hm, -⟩ | ⟨hm, -⟩
        · have hm4 : (n : Int) % 4 = 0 := by omega
          have hmi : Cd.missing n = 0 := by unfold Cd.missing; omega
          have HMI := Lib.hid hmi
          clear hmi hm
          go_wp2_with (first
            | (at_lookup; refine wpList_tab_no _ rfl _ _ rfl w.heap.size 64 _ c HV.out rfl hTr _ rfl rfl ?_))
          have hBl1 : Bld b b st.out wr.drew := hBl
          have hsz1 : b ≤ wr.drew.heap.size := hsz
          go_region_with (first
            | (go_at_call 39; refine (str_any b b _ _ hBl1 hsz1).mono ?_; rintro e w4 ⟨rfl, hB4, -⟩)
            | (go_at_call 116; refine (repeat_any 0 _ (by omega)).mono ?_; rintro e w5 ⟨rfl, hB5⟩))
          go_wp2
          go_ret2
          exact ⟨ret_sb (by rw [HRR.out]) (by rw [HRR.out, HMI.out]; exact tail_nil t n), below_tail hBb3 hBe hB4 hB5 (by have := hBb3.size; have := HS.out; omega) (by have := hB4.size; omega)⟩
        · have hm4 : (n : Int) % 4 = 1 := by omega
          have hmi : Cd.missing n = 3 := by unfold Cd.missing; omega
          have g3 : decide ((3 : Int) < 3) = false := by decide
          have HMI := Lib.hid hmi
          clear hmi hm
          go_wp2_with (first
            | (at_lookup; refine wpList_tab_no _ rfl _ _ rfl w.heap.size 64 _ c HV.out rfl hTr _ rfl rfl ?_))
          have hBl1 : Bld b b st.out wr.drew := hBl
          have hsz1 : b ≤ wr.drew.heap.size := hsz
          first | (go_region_with (first | (go_at_call 39; refine (str_any b b _ _ hBl1 hsz1).mono ?_; rintro e w4 ⟨rfl, hB4, -⟩) | fail)) | fail
          all_goals go_wp2
          all_goals go_ret2
          all_goals exact ⟨ret_sb (by rw [HRR.out]) (by rw [HRR.out, HMI.out]; rfl), below_tail hBb3 hBe hB4 (Below.refl _ _) (by have := hBb3.size; have := HS.out; omega) (by have := hB4.size; omega)⟩
        · have hm4 : (n : Int) % 4 = 2 := by omega
          have hmi : Cd.missing n = 2 := by unfold Cd.missing; omega
          have HMI := Lib.hid hmi
          clear hmi hm
          go_wp2_with (first
            | (at_lookup; refine wpList_tab_no _ rfl _ _ rfl w.heap.size 64 _ c HV.out rfl hTr _ rfl rfl ?_))
          have hBl1 : Bld b b st.out wr.drew := hBl
          have hsz1 : b ≤ wr.drew.heap.size := hsz
          go_region_with (first
            | (go_at_call 39; refine (str_any b b _ _ hBl1 hsz1).mono ?_; rintro e w4 ⟨rfl, hB4, -⟩)
            | (go_at_call 116; refine (repeat_any 2 _ (by omega)).mono ?_; rintro e w5 ⟨rfl, hB5⟩))
          go_wp2
          go_ret2
          exact ⟨ret_sb (by rw [HRR.out]) (by rw [HRR.out, HMI.out]; exact tail_eq t n 2 (by decide)), below_tail hBb3 hBe hB4 hB5 (by have := hBb3.size; have := HS.out; omega) (by have := hB4.size; omega)⟩
        · have hm4 : (n : Int) % 4 = 3 := by omega
          have hmi : Cd.missing n = 1 := by unfold Cd.missing; omega
          have HMI := Lib.hid hmi
          clear hmi hm
          go_wp2_with (first
            | (at_lookup; refine wpList_tab_no _ rfl _ _ rfl w.heap.size 64 _ c HV.out rfl hTr _ rfl rfl ?_))
          have hBl1 : Bld b b st.out wr.drew := hBl
          have hsz1 : b ≤ wr.drew.heap.size := hsz
          go_region_with (first
            | (go_at_call 39; refine (str_any b b _ _ hBl1 hsz1).mono ?_; rintro e w4 ⟨rfl, hB4, -⟩)
            | (go_at_call 116; refine (repeat_any 1 _ (by omega)).mono ?_; rintro e w5 ⟨rfl, hB5⟩))
          go_wp2
          go_ret2
          exact ⟨ret_sb (by rw [HRR.out]) (by rw [HRR.out, HMI.out]; exact tail_eq t n 1 (by decide)), below_tail hBb3 hBe hB4 hB5 (by have := hBb3.size; have := HS.out; omega) (by have := hB4.size; omega)⟩
    · have HE0 : ∀ d, t.data.toList[n]? = some d → Cd.isDig64 d = false := by
        intro d hd
        rw [List.getElem?_eq_none (by rw [← Lib.size_eq]; omega)] at hd
        cases hd
      have hn2 : n ≤ t.data.toList.length := by rw [← Lib.size_eq]; exact hn
      have hr1 : Cd.unbase64 s.data.toList = (st.out, decide (Cd.missing n < 3) && (t.data.toList.drop n == List.replicate (Cd.missing n) 61)) := by
        obtain ⟨e1, e2⟩ := Cd.takeWhile_at hall.out HE0 hn2
        have e3 : ((t.data.toList.takeWhile Cd.isDig64).length) = n := by rw [e1, List.length_take]; omega
        unfold Cd.unbase64
        rw [← HTD.out]
        simp only [e1] at e3 ⊢
        rw [hde.out, e3]
      have HRR := Lib.hid hr1
      have hss := hok.out.size
      clear HE0 hn2 hr1 hde hall hok
      rcases hss with ⟨hm, -⟩ | ⟨hm, -⟩ | ⟨hm, -⟩ | ⟨hm, -⟩
      · have hm4 : (n : Int) % 4 = 0 := by omega
        have hmi : Cd.missing n = 0 := by unfold Cd.missing; omega
        have HMI := Lib.hid hmi
        clear hmi hm
        go_wp2
        have hBl1 : Bld b b st.out wr.drew := hBl
        have hsz1 : b ≤ wr.drew.heap.size := hsz
        go_region_with (first
          | (go_at_call 39; refine (str_any b b _ _ hBl1 hsz1).mono ?_; rintro e w4 ⟨rfl, hB4, -⟩)
          | (go_at_call 116; refine (repeat_any 0 _ (by omega)).mono ?_; rintro e w5 ⟨rfl, hB5⟩))
        go_wp2
        go_ret2
        exact ⟨ret_sb (by rw [HRR.out]) (by rw [HRR.out, HMI.out]; exact tail_nil t n), below_tail hBb3 hBe hB4 hB5 (by have := hBb3.size; have := HS.out; omega) (by have := hB4.size; omega)⟩
      · have hm4 : (n : Int) % 4 = 1 := by omega
        have hmi : Cd.missing n = 3 := by unfold Cd.missing; omega
        have g3 : decide ((3 : Int) < 3) = false := by decide
        have HMI := Lib.hid hmi
        clear hmi hm
        go_wp2
        have hBl1 : Bld b b st.out wr.drew := hBl
        have hsz1 : b ≤ wr.drew.heap.size := hsz
        first | (go_region_with (first | (go_at_call 39; refine (str_any b b _ _ hBl1 hsz1).mono ?_; rintro e w4 ⟨rfl, hB4, -⟩) | fail)) | fail
        all_goals go_wp2
        all_goals go_ret2
        all_goals exact ⟨ret_sb (by rw [HRR.out]) (by rw [HRR.out, HMI.out]; rfl), below_tail hBb3 hBe hB4 (Below.refl _ _) (by have := hBb3.size; have := HS.out; omega) (by have := hB4.size; omega)⟩
      · have hm4 : (n : Int) % 4 = 2 := by omega
        have hmi : Cd.missing n = 2 := by unfold Cd.missing; omega
        have HMI := Lib.hid hmi
        clear hmi hm
        go_wp2
        have hBl1 : Bld b b st.out wr.drew := hBl
        have hsz1 : b ≤ wr.drew.heap.size := hsz
        go_region_with (first
          | (go_at_call 39; refine (str_any b b _ _ hBl1 hsz1).mono ?_; rintro e w4 ⟨rfl, hB4, -⟩)
          | (go_at_call 116; refine (repeat_any 2 _ (by omega)).mono ?_; rintro e w5 ⟨rfl, hB5⟩))
        go_wp2
        go_ret2
        exact ⟨ret_sb (by rw [HRR.out]) (by rw [HRR.out, HMI.out]; exact tail_eq t n 2 (by decide)), below_tail hBb3 hBe hB4 hB5 (by have := hBb3.size; have := HS.out; omega) (by have := hB4.size; omega)⟩
      · have hm4 : (n : Int) % 4 = 3 := by omega
        have hmi : Cd.missing n = 1 := by unfold Cd.missing; omega
        have HMI := Lib.hid hmi
        clear hmi hm
        go_wp2
        have hBl1 : Bld b b st.out wr.drew := hBl
        have hsz1 : b ≤ wr.drew.heap.size := hsz
        go_region_with (first
          | (go_at_call 39; refine (str_any b b _ _ hBl1 hsz1).mono ?_; rintro e w4 ⟨rfl, hB4, -⟩)
          | (go_at_call 116; refine (repeat_any 1 _ (by omega)).mono ?_; rintro e w5 ⟨rfl, hB5⟩))
        go_wp2
        go_ret2
        exact ⟨ret_sb (by rw [HRR.out]) (by rw [HRR.out, HMI.out]; exact tail_eq t n 1 (by decide)), below_tail hBb3 hBe hB4 hB5 (by have := hBb3.size; have := HS.out; omega) (by have := hB4.size; omega)⟩
end Go.Proofs.YtdkocjdhekomoaaGreatDoor
