/-
  Decoding base64, plainly: white bytes are dropped; the digits, one by one.
-/
import Derived.Test.YtdkocjdhekomoaaGreatDoorCLeaf
namespace Go.Proofs.YtdkocjdhekomoaaGreatDoor
open Go
namespace Cd
theorem replaceK_filter : ∀ (n : Nat) (s : List UInt8), s.length ≤ n → ∀ k, s.count 32 ≤ k → Lib.replaceK [32] [] k s = s.filter (fun c => c != 32) := by
  intro n
  induction n with
  | zero =>
    intro s h k _
    have : s = [] := List.eq_nil_of_length_eq_zero (by omega)
    subst this
    cases k with
    | zero => rfl
    | succ k => simp [Lib.replaceK, Lib.index]
  | succ n ih =>
    intro s h k hk
    cases k with
    | zero =>
      rw [Lib.replaceK]
      have : ∀ c ∈ s, (c != 32) = true := by
        intro c hc
        rw [bne_iff_ne]
        rintro rfl
        have := List.count_pos_iff.2 hc
        omega
      exact (List.filter_eq_self.2 this).symm
    | succ k =>
      rw [Lib.replaceK]
      have hge := Lib.indexByte_ge s 32
      by_cases hm : Lib.indexByte s 32 = -1
      · rw [Lib.index_one, hm, if_pos (by decide)]
        have hno := Lib.indexByte_none hm
        have : ∀ c ∈ s, (c != 32) = true := by
          intro c hc
          rw [bne_iff_ne]
          rintro rfl
          obtain ⟨j, hj⟩ := List.mem_iff_getElem?.1 hc
          exact hno j hj
        exact (List.filter_eq_self.2 this).symm
      · obtain ⟨o, ho⟩ : ∃ o : Nat, Lib.indexByte s 32 = o := ⟨(Lib.indexByte s 32).toNat, by omega⟩
        obtain ⟨h1, h2⟩ := Lib.indexByte_some ho
        have hol : o < s.length := (List.getElem?_eq_some_iff.1 h1).1
        have hs : s = s.take o ++ 32 :: s.drop (o + 1) := by
          have := List.take_append_drop o s
          rw [List.drop_eq_getElem_cons hol] at this
          rw [List.getElem?_eq_getElem hol] at h1
          rw [Option.some.inj h1] at this
          exact this.symm
        have hf : (s.take o).filter (fun c => c != 32) = s.take o := by
          apply List.filter_eq_self.2
          intro c hc
          rw [bne_iff_ne]
          rintro rfl
          obtain ⟨j, hj⟩ := List.mem_iff_getElem?.1 hc
          rw [List.getElem?_take] at hj
          split at hj
          · exact h2 j (by assumption) hj
          · cases hj
        have hcnt : (s.drop (o + 1)).count 32 ≤ k := by
          have e : s.count 32 = (s.take o).count 32 + ((s.drop (o + 1)).count 32 + 1) := by
            conv => lhs; rw [hs]
            rw [List.count_append, List.count_cons]; rfl
          omega
        rw [Lib.index_one, ho, if_neg (by intro h; have := beq_iff_eq.1 h; omega)]
        show (s.take o ++ []) ++ Lib.replaceK [32] [] k (s.drop (o + 1)) = _
        rw [ih _ (by rw [List.length_drop]; omega) k hcnt, List.append_nil]
        conv => rhs; rw [hs]
        rw [List.filter_append, hf, List.filter_cons]
        rfl
theorem replace_filter (s : List UInt8) : Lib.replaceAll s [32] [] = s.filter (fun c => c != 32) := by
  unfold Lib.replaceAll Lib.replace Lib.replaceNum
  rw [if_neg (by decide), if_pos (by omega), Lib.count_one]
  exact replaceK_filter _ s (Nat.le_refl _) _ (Nat.le_refl _)
theorem white_32 {c : UInt8} (h : Tx.isW c = false) : (c != 32) = true := by
  rw [bne_iff_ne]
  rintro rfl
  revert h; decide
theorem joinSp_filter : ∀ ws : List (List UInt8), (∀ x ∈ ws, ∀ c ∈ x, Tx.isW c = false) → (Tx.joinSp ws).filter (fun c => c != 32) = ws.flatten
  | [], _ => rfl
  | w :: r, h => by
    have hw : w.filter (fun c => c != 32) = w := List.filter_eq_self.2 fun c hc => white_32 (h w (by simp) c hc)
    have hr : ∀ r : List (List UInt8), (∀ x ∈ r, ∀ c ∈ x, Tx.isW c = false) → ((r.map fun x => 32 :: x).flatten).filter (fun c => c != 32) = r.flatten := by
      intro r
      induction r with
      | nil => intro _; rfl
      | cons x r ih =>
        intro hx
        have hx1 : x.filter (fun c => c != 32) = x := List.filter_eq_self.2 fun c hc => white_32 (hx x (by simp) c hc)
        rw [List.map_cons, List.flatten_cons, List.filter_append, ih (fun y hy => hx y (by simp [hy])), List.filter_cons]
        simp [hx1]
    show (w ++ (r.map fun x => 32 :: x).flatten).filter _ = _
    rw [List.filter_append, hw, hr r (fun x hx => h x (by simp [hx]))]; rfl
theorem wordsGo_flat : ∀ (l acc : List UInt8), (Tx.wordsGo acc l).flatten = acc ++ l.filter (fun c => !Tx.isW c)
  | [], acc => by
    rw [Tx.wordsGo]
    split
    · rename_i h; rw [h]; rfl
    · simp
  | c :: r, acc => by
    rw [Tx.wordsGo]
    by_cases hc : Tx.isW c = true
    · rw [if_pos hc]
      have hf : (c :: r).filter (fun c => !Tx.isW c) = r.filter (fun c => !Tx.isW c) := by rw [List.filter_cons]; simp [hc]
      rw [hf]
      split
      · rename_i h; rw [wordsGo_flat r [], h]
      · rw [List.flatten_cons, wordsGo_flat r []]; rfl
    · rw [if_neg hc, wordsGo_flat r (acc ++ [c])]
      have hf : (c :: r).filter (fun c => !Tx.isW c) = c :: r.filter (fun c => !Tx.isW c) := by rw [List.filter_cons]; simp [hc]
      rw [hf]; simp
theorem wordsGo_white : ∀ (l acc : List UInt8), (∀ c ∈ acc, Tx.isW c = false) → ∀ x ∈ Tx.wordsGo acc l, ∀ c ∈ x, Tx.isW c = false
  | [], acc, h => by
    intro x hx
    rw [Tx.wordsGo] at hx
    split at hx
    · cases hx
    · rw [List.mem_singleton] at hx; subst hx; exact h
  | c :: r, acc, h => by
    intro x hx
    rw [Tx.wordsGo] at hx
    by_cases hc : Tx.isW c = true
    · rw [if_pos hc] at hx
      split at hx
      · exact wordsGo_white r [] (by simp) x hx
      · rcases List.mem_cons.1 hx with rfl | hx
        · exact h
        · exact wordsGo_white r [] (by simp) x hx
    · rw [if_neg hc] at hx
      refine wordsGo_white r (acc ++ [c]) (fun d hd => ?_) x hx
      rcases List.mem_append.1 hd with hd | hd
      · exact h d hd
      · rw [List.mem_singleton] at hd; subst hd; simpa using hc
/-- Without the white bytes. -/
theorem bare_eq (l : List UInt8) : Lib.replaceAll (Tx.squeeze l) [32] [] = bare l := by
  rw [replace_filter]
  unfold Tx.squeeze Tx.words
  rw [joinSp_filter _ (wordsGo_white l [] (by simp)), wordsGo_flat]; rfl
theorem bare_le (l : List UInt8) : (bare l).length ≤ l.length := List.length_filter_le _ _
theorem squeeze_le (l : List UInt8) : (Tx.squeeze l).length ≤ 2 * l.length + 1 := by
  have key : ∀ ws : List (List UInt8), (Tx.joinSp ws).length ≤ ws.flatten.length + ws.length := by
    intro ws
    cases ws with
    | nil => simp [Tx.joinSp]
    | cons w r =>
      have : ∀ r : List (List UInt8), ((r.map fun x => (32 : UInt8) :: x).flatten).length = r.flatten.length + r.length := by
        intro r
        induction r with
        | nil => rfl
        | cons x r ih => rw [List.map_cons, List.flatten_cons, List.length_append, ih, List.flatten_cons, List.length_append, List.length_cons, List.length_cons]; omega
      simp only [Tx.joinSp, List.length_append, this, List.flatten_cons, List.length_cons]; omega
  have h1 := key (Tx.words l)
  have h2 := Tx.words_len l
  have h3 : (Tx.words l).flatten.length ≤ l.length := by
    unfold Tx.words
    rw [wordsGo_flat]
    exact List.length_filter_le _ _
  unfold Tx.squeeze
  omega
theorem decode_snoc (l : List UInt8) (c v : UInt8) (h : val64 c = some v) : decode (l ++ [c]) = (decode l).step v := by
  unfold decode
  rw [List.foldl_append]
  simp [h]
theorem val64_lt {c v : UInt8} (h : val64 c = some v) : v.toNat < 64 := by
  have H : ∀ k : Fin 256, (match val64 (UInt8.ofNat k.val) with | some v => decide (v.toNat < 64) | none => true) = true := by decide +kernel
  have := H ⟨c.toNat, UInt8.toNat_lt c⟩
  simp only [UInt8.ofNat_toNat] at this
  rw [h] at this
  simpa using this
/-- What is known of the state behind some digits. -/
structure St.Ok (st : St) (n : Nat) : Prop where
  g : st.g < 4294967296
  size : (n % 4 = 0 ∧ st.size = 0) ∨ (n % 4 = 1 ∧ st.size = 6) ∨ (n % 4 = 2 ∧ st.size = 4) ∨ (n % 4 = 3 ∧ st.size = 2)
  out : st.out.length ≤ n
theorem St.Ok.start : St.Ok ⟨0, 0, []⟩ 0 := ⟨by decide, .inl ⟨rfl, rfl⟩, by simp⟩
theorem St.Ok.step {st : St} {n : Nat} (h : st.Ok n) (v : UInt8) : (st.step v).Ok (n + 1) := by
  obtain ⟨h1, h2, h3⟩ := h
  unfold St.step
  rcases h2 with ⟨hn, hs⟩ | ⟨hn, hs⟩ | ⟨hn, hs⟩ | ⟨hn, hs⟩ <;> rw [hs]
  · exact ⟨Nat.mod_lt _ (by decide), .inr (.inl ⟨by omega, rfl⟩), Nat.le_succ_of_le h3⟩
  · exact ⟨Nat.mod_lt _ (by decide), .inr (.inr (.inl ⟨by omega, rfl⟩)), by simp; omega⟩
  · exact ⟨Nat.mod_lt _ (by decide), .inr (.inr (.inr ⟨by omega, rfl⟩)), by simp; omega⟩
  · exact ⟨Nat.mod_lt _ (by decide), .inl ⟨by omega, rfl⟩, by simp; omega⟩
theorem takeWhile_at {l : List UInt8} {n : Nat} (h : ∀ c ∈ l.take n, isDig64 c = true) (he : ∀ c, l[n]? = some c → isDig64 c = false) (hn : n ≤ l.length) : l.takeWhile isDig64 = l.take n ∧ l.drop n = l.drop (l.takeWhile isDig64).length := by
  have e : l.takeWhile isDig64 = l.take n := by
    conv => lhs; rw [← List.take_append_drop n l]
    rw [List.takeWhile_append_of_pos (fun c hc => h c hc)]
    cases hd : l.drop n with
    | nil => simp
    | cons c r =>
      have := he c (by rw [← List.head?_drop, hd]; rfl)
      simp [this]
  exact ⟨e, by rw [e, List.length_take, Nat.min_eq_left hn]⟩
end Cd
end Go.Proofs.YtdkocjdhekomoaaGreatDoor
