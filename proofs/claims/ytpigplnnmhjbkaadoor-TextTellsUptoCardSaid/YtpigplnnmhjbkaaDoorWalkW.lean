/-
  The law on words: its plain relation, its small contracts.
-/
import Derived.Test.YtpigplnnmhjbkaaDoorTrims
import Derived.Test.YtpigplnnmhjbkaaDoorStrs
namespace Go.Proofs.YtpigplnnmhjbkaaDoor
open Go Go.RowKit Go.Shelf
namespace Tx
/-- Byte j of the word x is looked for at k; behind it come the words xs. -/
def InW (S x : List UInt8) (xs : List (List UInt8)) (j k : Nat) : Prop :=
  k ≤ S.length ∧ j ≤ x.length ∧ ∃ ws T, (∀ c ∈ ws, isW c = true) ∧ (0 < j → ws = []) ∧ S.drop k = ws ++ (x.drop j ++ T) ∧ words T = xs
/-- The words xs lie from k on. -/
def OutW (S : List UInt8) (xs : List (List UInt8)) (k : Nat) : Prop := k ≤ S.length ∧ words (S.drop k) = xs
theorem drop_cons {S : List UInt8} {k : Nat} {c : UInt8} (h : S[k]? = some c) : S.drop k = c :: S.drop (k + 1) := by
  obtain ⟨hk, e⟩ := List.getElem?_eq_some_iff.1 h
  rw [List.drop_eq_getElem_cons hk, e]
theorem InW.start {S x : List UInt8} {xs : List (List UInt8)} {k : Nat} (h : OutW S (x :: xs) k) : InW S x xs 0 k := by
  obtain ⟨ws, T, h1, h2, h3, _, _⟩ := words_parts _ _ _ h.2
  exact ⟨h.1, Nat.zero_le _, ws, T, h1, fun h => absurd h (Nat.lt_irrefl _), h2, h3⟩
theorem InW.lt {S x : List UInt8} {xs : List (List UInt8)} {j k : Nat} (h : InW S x xs j k) (hj : j < x.length) : k < S.length := by
  obtain ⟨hk, _, ws, T, _, _, h3, _⟩ := h
  have := congrArg List.length h3
  simp only [List.length_drop, List.length_append] at this
  omega
theorem InW.white {S x : List UInt8} {xs : List (List UInt8)} {j k : Nat} {c : UInt8} (h : InW S x xs j k) (hj : j < x.length) (hx : ∀ d ∈ x, isW d = false) (hc : S[k]? = some c) (hw : isW c = true) : InW S x xs j (k + 1) := by
  have hlt := h.lt hj
  obtain ⟨hk, hjl, ws, T, h1, h2, h3, h4⟩ := h
  rw [drop_cons hc] at h3
  cases ws with
  | nil =>
    rw [List.nil_append, List.drop_eq_getElem_cons hj, List.cons_append] at h3
    injection h3 with h5 _
    rw [h5, hx _ (List.getElem_mem hj)] at hw
    cases hw
  | cons d ws =>
    rw [List.cons_append] at h3
    injection h3 with _ h6
    exact ⟨hlt, hjl, ws, T, fun e he => h1 e (by simp [he]), fun hj => (by have := h2 hj; cases this), h6, h4⟩
theorem InW.next {S x : List UInt8} {xs : List (List UInt8)} {j k : Nat} {c d : UInt8} (h : InW S x xs j k) (hd : x[j]? = some d) (hc : S[k]? = some c) (hw : isW c = false) : c = d ∧ InW S x xs (j + 1) (k + 1) := by
  obtain ⟨hj, he⟩ := List.getElem?_eq_some_iff.1 hd
  have hlt := h.lt hj
  obtain ⟨hk, hjl, ws, T, h1, h2, h3, h4⟩ := h
  rw [drop_cons hc] at h3
  cases ws with
  | cons d ws =>
    rw [List.cons_append] at h3
    injection h3 with h5 _
    rw [h5, h1 d (by simp)] at hw
    cases hw
  | nil =>
    rw [List.nil_append, List.drop_eq_getElem_cons hj, List.cons_append] at h3
    injection h3 with h5 h6
    refine ⟨h5.trans he, hlt, hj, [], T, ?_, fun _ => rfl, h6, h4⟩
    intro e he
    cases he
theorem InW.end_ {S x : List UInt8} {xs : List (List UInt8)} {j k : Nat} (h : InW S x xs j k) (hj : j = x.length) (hx : x ≠ []) : OutW S xs k := by
  subst hj
  obtain ⟨hk, hjl, ws, T, h1, h2, h3, h4⟩ := h
  have := List.length_pos_iff.2 hx
  rw [h2 this, List.nil_append, List.drop_length, List.nil_append] at h3
  exact ⟨hk, by rw [h3]; exact h4⟩
theorem OutW.white {S : List UInt8} {k : Nat} {c : UInt8} (h : OutW S [] k) (hc : S[k]? = some c) : isW c = true ∧ OutW S [] (k + 1) := by
  have h3 := h.2
  rw [drop_cons hc] at h3
  by_cases hw : isW c = true
  · rw [words_white c _ hw] at h3
    exact ⟨hw, (List.getElem?_eq_some_iff.1 hc).1, h3⟩
  · have hw' : isW c = false := by simpa using hw
    have hne : words (c :: S.drop (k + 1)) ≠ [] := by
      unfold words
      rw [wordsGo_cons, if_neg hw, List.nil_append]
      have hg : ∀ (l acc : List UInt8), acc ≠ [] → wordsGo acc l ≠ [] := by
        intro l
        induction l with
        | nil => intro acc ha; rw [wordsGo_nil, if_neg ha]; simp
        | cons d r ih =>
          intro acc ha
          rw [wordsGo_cons]
          by_cases hd : isW d = true
          · rw [if_pos hd, if_neg ha]; simp
          · rw [if_neg hd]; exact ih _ (by simp)
      exact hg _ _ (by simp)
    exact absurd h3 hne
end Tx

set_option maxHeartbeats 1000000 in
set_option maxRecDepth 100000 in
theorem white_to {c : UInt8} {g : Bool} (hg : Tx.isW c = g) (w : World) :
    Calls Tryd.prog 33 #[.int .u8 c.toNat] w fun e w' => e = .returned (.bool g) ∧ ∃ n, w' = w.drewN n := by
  have key : g = (((c.toNat : Int) == 9) || (((c.toNat : Int) == 10) || (((c.toNat : Int) == 13) || ((c.toNat : Int) == 32)))) := by
    rw [← hg]
    exact Tx.byte_all (P := fun c => Tx.isW c = (((c.toNat : Int) == 9) || (((c.toNat : Int) == 10) || (((c.toNat : Int) == 13) || ((c.toNat : Int) == 32))))) (by decide +kernel) c
  clear hg
  generalize (c.toNat : Int) = z at key ⊢
  cases h9 : z == 9 <;> cases h10 : z == 10 <;> cases h13 : z == 13 <;> cases h32 : z == 32 <;> rw [h9, h10, h13, h32] at key <;> subst key <;>
  · go_enter Tryd.func33, Tryd.ntmps33
    go_wp2
    go_ret
    exact ⟨rfl, 0, rfl⟩

set_option maxHeartbeats 1000000 in
set_option maxRecDepth 100000 in
theorem trim_text {s X : ByteArray} (hX : ⟨(Tx.trim s.data.toList).toArray⟩ = X) (hs : s.size ≤ 9223372036854775807) (w : World) :
    Calls Tryd.prog 18 #[.string s] w fun e w' => e = .returned (.string X) ∧ Below w.heap.size w w' := by
  have H := Lib.hid (trim_any s w hs)
  have HX := Lib.hid hX
  clear hX
  go_enter Tryd.func18, Tryd.ntmps18
  go_wp2_with fail
  refine H.out.mono ?_
  rintro e w1 ⟨rfl, hB⟩
  go_wp2
  go_ret
  exact ⟨by rw [← HX.out]; rfl, hB⟩
theorem squeeze_text {s Q : ByteArray} (hQ : ⟨(Tx.squeeze s.data.toList).toArray⟩ = Q) (hs : s.size ≤ 1000000) (w : World) :
    Calls Tryd.prog 20 #[.string s] w fun e w' => e = .returned (.string Q) ∧ Below w.heap.size w w' :=
  (squeeze_any s w hs).mono fun _ _ ⟨a, b⟩ => ⟨by rw [a, hQ], b⟩
theorem fields_text {s : ByteArray} {L : List (List UInt8)} (hL : Tx.words s.data.toList = L) (hs : s.size ≤ 1000000) (w : World) :
    Calls Tryd.prog 27 #[.string s] w fun e w' => ∃ xa b cap, e = .returned (.slice xa L.length cap) ∧ RowOf w' (.slice xa L.length cap) xa b 0 cap L ∧ Below w.heap.size w w' :=
  (fields_any s w hs).mono fun _ _ ⟨v, a, h, hb⟩ => by
    rw [hL] at h
    obtain ⟨xa, b, cap, hr⟩ := rowOf_own h
    obtain rfl := hr.is
    exact ⟨xa, b, cap, a, hr, hb⟩
theorem strings_rows {W : World} {X : List (List UInt8)} {v v' : Value} {xa ya : Option Addr} {b off cap b' off' cap' : Nat} (hx : RowOf W v xa b off cap X) (hy : RowOf W v' ya b' off' cap' X) (hl : X.length ≤ 9223372036854775807) :
    Calls Tryd.prog 26 #[.slice xa X.length cap, .slice ya X.length cap'] W fun e w' => e = .returned (.bool true) ∧ ∃ n, w' = W.drewN n :=
  strings_walk xa ya b off cap b' off' cap' X W hl hx.at_ hy.at_ hx.cell hy.cell
end Go.Proofs.YtpigplnnmhjbkaaDoor
