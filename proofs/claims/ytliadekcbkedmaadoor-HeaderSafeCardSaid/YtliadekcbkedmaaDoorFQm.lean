/-
  What Quote writes is read again by Params, plainly.
-/
import Derived.Test.YtliadekcbkedmaaDoorFSm
namespace Go.Proofs.YtliadekcbkedmaaDoor
namespace Hd
theorem visB_sp {c : UInt8} (h : visB specials c = true) : 33 ≤ c.toNat ∧ c.toNat ≤ 126 ∧ c ≠ 34 ∧ c ≠ 92 ∧ c ≠ 59 ∧ c ≠ 61 ∧ c ≠ 58 := by
  obtain ⟨h1, h2, h3⟩ := visB_of h
  refine ⟨h1, h2, ?_, ?_, ?_, ?_, ?_⟩ <;> (rintro rfl; exact h3 (by decide))
theorem token_of {s : List UInt8} (h : token s = true) : s ≠ [] ∧ ∀ c ∈ s, visB specials c = true := by
  unfold token vis at h
  rw [Bool.and_eq_true] at h
  refine ⟨fun e => by rw [e] at h; simp at h, fun c hc => List.all_eq_true.1 h.1 c hc⟩
theorem pieces_out : ∀ (l cur r : List UInt8), (∀ c ∈ l, c ≠ 34 ∧ c ≠ 59) → piecesF false false cur (l ++ r) = piecesF false false (cur ++ l) r
  | [], cur, r, _ => by simp
  | c :: l, cur, r, h => by
    have hc := h c (by simp)
    have ih := pieces_out l (cur ++ [c]) r (fun d hd => h d (by simp [hd]))
    rw [List.cons_append]
    conv => lhs; unfold piecesF
    rw [if_neg hc.1]
    have e : cur ++ c :: l = cur ++ [c] ++ l := by simp
    rw [e, ← ih]
    split
    · rfl
    · rw [if_neg (fun h => hc.2 h.1)]
theorem pieces_esc : ∀ (v cur r : List UInt8), piecesF true false cur (esc v ++ r) = piecesF true false (cur ++ esc v) r
  | [], cur, r => by simp [esc]
  | c :: v, cur, r => by
    have e1 : esc (c :: v) = (if c = 34 ∨ c = 92 then [92, c] else [c]) ++ esc v := by simp [esc]
    rw [e1]
    split
    · rename_i hc
      have ih := pieces_esc v (cur ++ [92, c]) r
      have e2 : cur ++ ([92, c] ++ esc v) = cur ++ [92, c] ++ esc v := by simp
      rw [e2, ← ih]
      show piecesF true false cur (92 :: c :: (esc v ++ r)) = _
      conv => lhs; unfold piecesF
      rw [if_neg (by decide), if_pos rfl]
      conv => lhs; unfold piecesF
      simp
    · rename_i hc
      have ih := pieces_esc v (cur ++ [c]) r
      have e2 : cur ++ ([c] ++ esc v) = cur ++ [c] ++ esc v := by simp
      rw [e2, ← ih]
      show piecesF true false cur (c :: (esc v ++ r)) = _
      conv => lhs; unfold piecesF
      rw [if_neg (fun h => hc (.inl h)), if_neg (fun h => hc (.inr h)), if_neg (fun h => by cases h.2)]
theorem pieces_quoted (v cur r : List UInt8) : piecesF false false cur (quoted v ++ r) = piecesF false false (cur ++ quoted v) r := by
  unfold quoted
  split
  · rename_i h
    refine pieces_out v cur r (fun c hc => ?_)
    have := visB_sp ((token_of h).2 c hc)
    exact ⟨this.2.2.1, this.2.2.2.2.1⟩
  · rw [show (34 :: esc v ++ [34]) ++ r = 34 :: (esc v ++ (34 :: r)) by simp]
    conv => lhs; unfold piecesF
    rw [if_pos rfl]
    show piecesF true false (cur ++ [34]) (esc v ++ 34 :: r) = _
    rw [pieces_esc]
    conv => lhs; unfold piecesF
    rw [if_pos rfl]
    show piecesF false false _ r = _
    congr 1
    simp
/-- A parameter's piece. -/
def pieceOf (p : Fd) : List UInt8 := 32 :: (p.1 ++ 61 :: quoted p.2)
theorem pieces_params : ∀ (ps : List Fd) (cur : List UInt8), (∀ p ∈ ps, token p.1 = true) → piecesF false false cur ((ps.map quote1).flatten) = cur :: ps.map pieceOf
  | [], cur, _ => by simp [piecesF]
  | p :: ps, cur, h => by
    have hp := h p (by simp)
    have ih := pieces_params ps (pieceOf p) (fun q hq => h q (by simp [hq]))
    rw [List.map_cons, List.flatten_cons, List.map_cons]
    have e : quote1 p ++ (ps.map quote1).flatten = 59 :: ((32 :: (p.1 ++ [61])) ++ (quoted p.2 ++ (ps.map quote1).flatten)) := by
      unfold quote1
      rw [if_pos hp]
      simp
    rw [e]
    conv => lhs; unfold piecesF
    rw [if_neg (by decide), if_neg (by decide), if_pos ⟨rfl, rfl⟩]
    rw [pieces_out _ [] _ (fun c hc => by
      rcases List.mem_cons.1 hc with rfl | hc
      · decide
      · rcases List.mem_append.1 hc with hc | hc
        · have := visB_sp ((token_of hp).2 c hc)
          exact ⟨this.2.2.1, this.2.2.2.2.1⟩
        · rw [List.mem_singleton.1 hc]; decide), pieces_quoted]
    have e2 : [] ++ (32 :: (p.1 ++ [61])) ++ quoted p.2 = pieceOf p := by simp [pieceOf]
    rw [e2, ih]
theorem pieces_quote {main : List UInt8} {ps : List Fd} (hm : ∀ c ∈ main, c ≠ 34 ∧ c ≠ 59) (h : ∀ p ∈ ps, token p.1 = true) : pieces (quote main ps) = main :: ps.map pieceOf := by
  unfold pieces quote
  rw [pieces_out main [] _ hm, List.nil_append, pieces_params ps main h]
theorem unqF_esc : ∀ (v o : List UInt8), unqF false o (esc v ++ [34]) = some (o ++ v)
  | [], o => by simp [esc, unqF]
  | c :: v, o => by
    have e1 : esc (c :: v) = (if c = 34 ∨ c = 92 then [92, c] else [c]) ++ esc v := by simp [esc]
    rw [e1]
    have e2 : o ++ c :: v = o ++ [c] ++ v := by simp
    rw [e2]
    split
    · rename_i hc
      rw [← unqF_esc v (o ++ [c])]
      show unqF false o (92 :: c :: (esc v ++ [34])) = _
      conv => lhs; unfold unqF
      rw [if_neg (by decide), if_pos rfl]
      conv => lhs; unfold unqF
    · rename_i hc
      rw [← unqF_esc v (o ++ [c])]
      show unqF false o (c :: (esc v ++ [34])) = _
      conv => lhs; unfold unqF
      rw [if_neg (fun h => hc (.inl h)), if_neg (fun h => hc (.inr h))]
theorem vis_less {s : List UInt8} (h : token s = true) : vis [34] s = true := by
  obtain ⟨h1, h2⟩ := token_of h
  unfold vis
  rw [Bool.and_eq_true]
  refine ⟨List.all_eq_true.2 fun c hc => ?_, by cases s with | nil => exact absurd rfl h1 | cons _ _ => rfl⟩
  have h3 := visB_sp (h2 c hc)
  have h4 := visB_of (h2 c hc)
  unfold visB
  simp only [Bool.and_eq_true, decide_eq_true_eq, Bool.not_eq_true']
  refine ⟨⟨h3.1, h3.2.1⟩, ?_⟩
  simp [h3.2.2.1]
theorem unq_quoted (v : List UInt8) : unq (quoted v) = some v := by
  unfold quoted
  split
  · rename_i h
    obtain ⟨h1, h2⟩ := token_of h
    cases v with
    | nil => exact absurd rfl h1
    | cons c r =>
      unfold unq
      simp only
      rw [if_neg (visB_sp (h2 c (by simp))).2.2.1, if_pos (vis_less h)]
  · rename_i h
    show unq (34 :: (esc v ++ [34])) = some v
    unfold unq
    simp only
    rw [if_pos True.intro, unqF_esc]
    rfl
theorem notW {c : UInt8} (h : 33 ≤ c.toNat) : Tx.isW c = false := by
  rw [← Tx.isW_eq]
  simp only [List.contains_eq_mem, decide_eq_false_iff_not]
  intro hm
  have : ∀ d ∈ ([9, 10, 13, 32] : List UInt8), d.toNat ≤ 32 := by decide
  have := this c hm
  omega
theorem trim_vis {s : List UInt8} (h : ∀ c ∈ s, 33 ≤ c.toNat) : Tx.trim s = s :=
  Tx.trim_same s (fun c hc => notW (h c (List.mem_of_mem_head? hc))) (fun c hc => notW (h c (List.mem_of_getLast? hc)))
theorem trim_sp {s : List UInt8} (h : ∀ c ∈ s, 33 ≤ c.toNat) (h0 : s ≠ []) : Tx.trim (32 :: s) = s := by
  have e2 : Lib.trimRightS (32 :: s) [9, 10, 13, 32] = 32 :: s := by
    unfold Lib.trimRightS
    have hl : (32 :: s).getLast? = s.getLast? := by
      cases s with
      | nil => exact absurd rfl h0
      | cons c r => simp [List.getLast?_cons]
    cases e : (32 :: s).reverse with
    | nil => simp at e
    | cons c r =>
      have hc2 : s.getLast? = some c := by rw [← hl, ← List.head?_reverse, e]; rfl
      have hc : Tx.isW c = false := notW (h c (List.mem_of_getLast? hc2))
      rw [List.dropWhile_cons_of_neg (by rw [Tx.isW_eq, hc]; decide), ← e, List.reverse_reverse]
  show Lib.trimLeftS (Lib.trimRightS (32 :: s) _) _ = s
  rw [e2]
  unfold Lib.trimLeftS
  rw [List.dropWhile_cons_of_pos (by decide)]
  cases e : s with
  | nil => rfl
  | cons c r =>
    have hc : Tx.isW c = false := notW (h c (by rw [e]; simp))
    rw [List.dropWhile_cons_of_neg (by rw [Tx.isW_eq, hc]; decide)]
theorem trim_quoted (v : List UInt8) : Tx.trim (quoted v) = quoted v := by
  unfold quoted
  split
  · rename_i h
    exact trim_vis fun c hc => (visB_sp ((token_of h).2 c hc)).1
  · refine Tx.trim_same _ (fun c hc => ?_) (fun c hc => ?_)
    · simp only [List.cons_append, List.head?_cons, Option.some.injEq] at hc; subst hc; exact notW (by decide)
    · rw [List.getLast?_append] at hc
      simp only [List.getLast?_singleton, Option.some_or, Option.some.injEq] at hc
      subst hc; exact notW (by decide)
theorem param_piece {p : Fd} (h : token p.1 = true) (hl : Tx.lowL p.1 = p.1) : param (pieceOf p) = some p := by
  obtain ⟨h1, h2⟩ := token_of h
  have hc : Lib.cut (pieceOf p) [61] = (32 :: p.1, quoted p.2, true) := cut_at 61 (32 :: p.1) (quoted p.2) (fun hm => by
    rcases List.mem_cons.1 hm with hm | hm
    · exact absurd hm (by decide)
    · exact (visB_sp (h2 61 hm)).2.2.2.2.2.1 rfl)
  have hn : pname (pieceOf p) = p.1 := by
    unfold pname
    rw [hc, trim_sp (fun c hc => (visB_sp (h2 c hc)).1) h1, hl]
  unfold param
  rw [hc, hn]
  simp only
  rw [trim_quoted, unq_quoted]
  simp only
  rw [if_pos h]
theorem fold_params : ∀ (ps out : List Fd), (∀ p ∈ ps, token p.1 = true ∧ Tx.lowL p.1 = p.1) → (out ++ ps).Pairwise (fun a b => a.1 ≠ b.1) → (ps.map pieceOf).foldl addParam out = out ++ ps
  | [], out, _, _ => by simp
  | p :: ps, out, h, hd => by
    have hp := h p (by simp)
    rw [List.map_cons, List.foldl_cons]
    have e : addParam out (pieceOf p) = out ++ [p] := by
      unfold addParam
      rw [param_piece hp.1 hp.2]
      simp only
      rw [if_neg]
      intro ha
      obtain ⟨x, hx, he⟩ := List.any_eq_true.1 ha
      have := (List.pairwise_append.1 hd).2.2 x hx p (by simp)
      exact this (by simpa using he)
    rw [e, fold_params ps (out ++ [p]) (fun q hq => h q (by simp [hq])) (by simpa using hd)]
    simp
/-- Params of what Quote wrote. -/
theorem params_quote {main : List UInt8} {ps : List Fd} (hm : ∀ c ∈ main, c ≠ 34 ∧ c ≠ 59) (ht : Tx.trim main = main) (h : ∀ p ∈ ps, token p.1 = true ∧ Tx.lowL p.1 = p.1) (hd : ps.Pairwise (fun a b => a.1 ≠ b.1)) : params (quote main ps) = (main, ps) := by
  unfold params
  rw [pieces_quote hm (fun p hp => (h p hp).1)]
  show (Tx.trim main, (ps.map pieceOf).foldl addParam []) = _
  rw [ht, fold_params ps [] h (by simpa using hd), List.nil_append]
end Hd
end Go.Proofs.YtliadekcbkedmaaDoor
