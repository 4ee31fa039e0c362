/-
  The reference's Trim.
-/
import Derived.Test.YtpigplnnmhjbkaaDoorRefA
namespace Go.Proofs.YtpigplnnmhjbkaaDoor
open Go Go.RowKit Go.Shelf
namespace Tx
/-- k white bytes stand at the front. -/
def FrontW (S : List UInt8) (k : Nat) : Prop := k ≤ S.length ∧ ∀ c ∈ S.take k, isW c = true
/-- From u on all bytes are white. -/
def BackW (S : List UInt8) (u : Nat) : Prop := u ≤ S.length ∧ ∀ c ∈ S.drop u, isW c = true
theorem FrontW.next {S : List UInt8} {k : Nat} {c : UInt8} (h : FrontW S k) (hc : S[k]? = some c) (hw : isW c = true) : FrontW S (k + 1) := by
  obtain ⟨hk, e⟩ := List.getElem?_eq_some_iff.1 hc
  refine ⟨hk, fun d hd => ?_⟩
  rw [List.take_succ_eq_append_getElem hk] at hd
  rcases List.mem_append.1 hd with hd | hd
  · exact h.2 d hd
  · obtain rfl := List.mem_singleton.1 hd; rw [e]; exact hw
theorem BackW.next {S : List UInt8} {u : Nat} {c : UInt8} (h : BackW S (u + 1)) (hc : S[u]? = some c) (hw : isW c = true) : BackW S u := by
  refine ⟨Nat.le_of_succ_le h.1, fun d hd => ?_⟩
  rw [drop_cons hc] at hd
  rcases List.mem_cons.1 hd with rfl | hd
  · exact hw
  · exact h.2 d hd
theorem dropWhile_all {p : UInt8 → Bool} : ∀ (a b : List UInt8), (∀ c ∈ a, p c = true) → (a ++ b).dropWhile p = b.dropWhile p
  | [], b, _ => rfl
  | c :: r, b, h => by rw [List.cons_append, List.dropWhile_cons_of_pos (h c (by simp)), dropWhile_all r b (fun d hd => h d (by simp [hd]))]
theorem trim_white (a m b : List UInt8) (ha : ∀ c ∈ a, isW c = true) (hb : ∀ c ∈ b, isW c = true) (h1 : ∀ c, m.head? = some c → isW c = false) (h2 : ∀ c, m.getLast? = some c → isW c = false) : trim (a ++ m ++ b) = m := by
  have hp : ∀ c, isW c = true → ([9, 10, 13, 32] : List UInt8).contains c = true := fun c h => by rw [isW_eq]; exact h
  have e1 : Lib.trimRightS (a ++ m ++ b) [9, 10, 13, 32] = Lib.trimRightS (a ++ m) [9, 10, 13, 32] := by
    unfold Lib.trimRightS
    rw [List.reverse_append, dropWhile_all _ _ (fun c hc => hp c (hb c (List.mem_reverse.1 hc)))]
  cases e : m with
  | nil =>
    show Lib.trimLeftS (Lib.trimRightS (a ++ [] ++ b) _) _ = []
    have e1' := e1
    rw [e, List.append_nil] at e1'
    rw [List.append_nil, e1']
    have : Lib.trimRightS a [9, 10, 13, 32] = [] := by
      unfold Lib.trimRightS
      have := dropWhile_all (p := fun c => ([9, 10, 13, 32] : List UInt8).contains c) a.reverse [] (fun c hc => hp c (ha c (List.mem_reverse.1 hc)))
      rw [List.append_nil] at this
      rw [this]; rfl
    rw [this]; rfl
  | cons c r =>
    rw [← e]
    show Lib.trimLeftS (Lib.trimRightS (a ++ m ++ b) _) _ = m
    rw [e1]
    have hl : ∃ d q, m.reverse = d :: q ∧ isW d = false := by
      cases er : m.reverse with
      | nil => have : m = [] := by simpa using er
               rw [e] at this; cases this
      | cons d q => exact ⟨d, q, rfl, h2 d (by rw [← List.head?_reverse, er]; rfl)⟩
    obtain ⟨d, q, er, hd⟩ := hl
    have e2 : Lib.trimRightS (a ++ m) [9, 10, 13, 32] = a ++ m := by
      unfold Lib.trimRightS
      rw [List.reverse_append, er, List.cons_append, List.dropWhile_cons_of_neg (by rw [isW_eq, hd]; decide), ← List.cons_append, ← er, ← List.reverse_append, List.reverse_reverse]
    rw [e2]
    unfold Lib.trimLeftS
    rw [dropWhile_all _ _ (fun c hc => hp c (ha c hc)), e, List.dropWhile_cons_of_neg (by rw [isW_eq, h1 c (by rw [e]; rfl)]; decide)]
/-- What lies between the two marks is the trimmed string. -/
theorem trim_between {S : List UInt8} {f u : Nat} (hf : FrontW S f) (hu : BackW S u) (hfu : f ≤ u) (h1 : ∀ c, f < u → S[f]? = some c → isW c = false) (h2 : ∀ c, f < u → S[u - 1]? = some c → isW c = false) : trim S = (S.take u).drop f := by
  have e : S = S.take f ++ (S.take u).drop f ++ S.drop u := by
    have h3 : S.take f = (S.take u).take f := by rw [List.take_take, Nat.min_eq_left hfu]
    rw [h3, List.take_append_drop, List.take_append_drop]
  conv => lhs; rw [e]
  refine trim_white _ _ _ hf.2 hu.2 (fun c hc => ?_) (fun c hc => ?_)
  · rw [List.head?_eq_getElem?, List.getElem?_drop, Nat.add_zero] at hc
    by_cases hlt : f < u
    · rw [List.getElem?_take_of_lt hlt] at hc
      exact h1 c hlt hc
    · rw [List.getElem?_eq_none (by rw [List.length_take]; omega)] at hc; cases hc
  · rw [List.getLast?_eq_getElem?, List.getElem?_drop] at hc
    by_cases hlt : f < u
    · have hl : ((S.take u).drop f).length = u - f := by rw [List.length_drop, List.length_take, Nat.min_eq_left hu.1]
      rw [hl, show f + (u - f - 1) = u - 1 by omega, List.getElem?_take_of_lt (by omega)] at hc
      exact h2 c hlt hc
    · rw [List.getElem?_eq_none (by rw [List.length_drop, List.length_take]; omega)] at hc; cases hc
theorem extract_eq (s : ByteArray) (f u : Nat) : (⟨((s.data.toList.take u).drop f).toArray⟩ : ByteArray) = s.extract f u := by
  have h : (s.extract f u).data.toList = (s.data.toList.take u).drop f := by simp [List.drop_take]
  rw [← Lib.mk_data (s.extract f u), h]
end Tx

set_option maxHeartbeats 2000000 in
set_option maxRecDepth 100000 in
theorem refTrim_any (s : ByteArray) (w : World) (hs : s.size ≤ 9223372036854775807) :
    Calls Tryd.prog 19 #[.string s] w fun e w' => e = .returned (.string ⟨(Tx.trim s.data.toList).toArray⟩) ∧ ∃ n, w' = w.drewN n := by
  have HS := Lib.hid (Lib.size_eq s)
  go_enter Tryd.func19, Tryd.ntmps19
  go_wp2
  go_loopw [3] (fun kk wr => ∃ k : Nat, kk = .int .i64 k ∧ k ≤ s.size ∧ Hid (Tx.FrontW s.data.toList k) ∧ Hid (∃ n, wr = w.drewN n)) (fun kk _ => s.size - (intOf kk).toNat)
  case atStart => exact ⟨0, rfl, Nat.zero_le _, ⟨Nat.zero_le _, by intro c hc; simp at hc⟩, ⟨0, rfl⟩⟩
  case round =>
    obtain ⟨k, rfl, hk, hf, hwr⟩ := hrel
    by_cases hlt : k < s.size
    · have gS := Tx.get_of s k hlt
      obtain ⟨c, hck⟩ : ∃ c, s[k] = c := ⟨_, rfl⟩
      rw [hck] at gS
      cases hw : Tx.isW c with
      | true =>
        have HW := Lib.hid (fun W => refWhite_to hw W)
        have HX := Lib.hid (hf.out.next gS hw)
        clear gS hw
        go_wp2_with fail
        refine (HW.out _).mono ?_
        rintro e wk ⟨rfl, nk, rfl⟩
        go_wp2
        go_roundw
        case rel => exact ⟨k + 1, by go_num, by omega, HX.out, drews_more hwr.out _⟩
        case measure => simp [intOf] <;> omega
      | false =>
        have HW := Lib.hid (fun W => refWhite_to hw W)
        have HG := Lib.hid gS
        have HK := Lib.hid hw
        clear gS hw
        go_wp2_with fail
        refine (HW.out _).mono ?_
        rintro e wk ⟨rfl, nk, rfl⟩
        have hwr2 := Lib.hid (drews_more hwr.out nk)
        clear hwr
        go_wp2
        obtain ⟨wo, rfl⟩ : ∃ wo : World, wo = wr := ⟨_, rfl⟩
        go_loopw [4] (fun uu wr => ∃ u : Nat, uu = .int .i64 u ∧ k ≤ u ∧ u ≤ s.size ∧ Hid (Tx.BackW s.data.toList u) ∧ Hid (∃ n, wr = w.drewN n)) (fun uu _ => (intOf uu).toNat)
        case atStart => exact ⟨s.size, rfl, by omega, Nat.le_refl _, ⟨by rw [HS.out]; exact Nat.le_refl _, by intro c hc; rw [HS.out, List.drop_length] at hc; cases hc⟩, hwr2.out⟩
        case round =>
          obtain ⟨u, rfl, hku, hus, hbk, hwr⟩ := hrel
          by_cases hlt2 : k < u
          · obtain ⟨v, rfl⟩ : ∃ v, u = v + 1 := ⟨u - 1, by omega⟩
            have hvs : v < s.size := by omega
            have gV := Tx.get_of s v hvs
            obtain ⟨d, hdk⟩ : ∃ d, s[v] = d := ⟨_, rfl⟩
            rw [hdk] at gV
            cases hw : Tx.isW d with
            | true =>
              have HW := Lib.hid (fun W => refWhite_to hw W)
              have HX := Lib.hid (hbk.out.next gV hw)
              clear gV hw
              go_wp2_with fail
              refine (HW.out _).mono ?_
              rintro e wk ⟨rfl, nk, rfl⟩
              go_wp2
              go_roundw
              case rel => exact ⟨v, by go_num, by omega, by omega, HX.out, drews_more hwr.out _⟩
              case measure => simp [intOf] <;> omega
            | false =>
              have HW := Lib.hid (fun W => refWhite_to hw W)
              have hx := Tx.trim_between hf.out hbk.out hku (fun c' h h' => by rw [HG.out] at h'; cases h'; exact HK.out) (fun d' h h' => by rw [show v + 1 - 1 = v by omega, gV] at h'; cases h'; exact hw)
              have HX := Lib.hid hx
              clear gV hw hx
              go_wp2_with fail
              refine (HW.out _).mono ?_
              rintro e wk ⟨rfl, nk, rfl⟩
              go_wp2
              go_ret
              exact ⟨by rw [HX.out, Tx.extract_eq]; first | rfl | simp, drews_more hwr.out _⟩
          · obtain rfl : u = k := by omega
            have hx := Tx.trim_between hf.out hbk.out (Nat.le_refl _) (fun c' h h' => absurd h (Nat.lt_irrefl _)) (fun d' h h' => absurd h (Nat.lt_irrefl _))
            have HX := Lib.hid hx
            clear hx
            go_wp2
            go_ret
            exact ⟨by rw [HX.out, Tx.extract_eq]; first | rfl | simp, hwr.out⟩
    · have hks : k = s.size := by omega
      have hwr2 := hwr
      have HG : Hid (∀ c, s.data.toList[k]? = some c → False) := fun c h => by
        have := (List.getElem?_eq_some_iff.1 h).1
        rw [← HS.out] at this
        omega
      clear hwr
      go_wp2
      obtain ⟨wo, rfl⟩ : ∃ wo : World, wo = wr := ⟨_, rfl⟩
      go_loopw [4] (fun uu wr => uu = .int .i64 s.size ∧ Hid (∃ n, wr = w.drewN n)) (fun uu _ => 0)
      case atStart => exact ⟨rfl, hwr2.out⟩
      case round =>
        obtain ⟨rfl, hwr⟩ := hrel
        have hbk : Tx.BackW s.data.toList s.size := ⟨by rw [HS.out]; exact Nat.le_refl _, by intro c hc; rw [HS.out, List.drop_length] at hc; cases hc⟩
        subst hks
        have hx := Tx.trim_between hf.out hbk (Nat.le_refl _) (fun c' h h' => absurd h (Nat.lt_irrefl _)) (fun d' h h' => absurd h (Nat.lt_irrefl _))
        have HX := Lib.hid hx
        clear hx hbk
        go_wp2
        go_ret
        exact ⟨by rw [HX.out, Tx.extract_eq]; first | rfl | simp, hwr.out⟩
end Go.Proofs.YtpigplnnmhjbkaaDoor
