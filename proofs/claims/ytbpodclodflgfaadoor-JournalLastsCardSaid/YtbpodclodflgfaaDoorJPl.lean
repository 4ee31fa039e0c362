/-
  The plain part of layer 6: what was written is found; a rewriting, whatever crash comes.
-/
import Derived.Test.YtbpodclodflgfaaDoorJGf
namespace Go.Proofs.YtbpodclodflgfaaDoor
open Go Go.RowKit
namespace Jn
theorem firstRow_form (r t : B) (hr : r.length ≤ 16777216) : firstRow (form r ++ t) = some r := by
  have e : form r ++ t = num (r.length : Int) ++ (num (crc r) ++ (r ++ t)) := by unfold form; simp only [List.append_assoc]
  have hl : 16 ≤ (form r ++ t).length := by rw [List.length_append, form_length]; omega
  have v1 : val (form r ++ t) = (r.length : Int) := by rw [e]; exact val_num _ (by omega) (by omega) _
  have d8 : (form r ++ t).drop 8 = num (crc r) ++ (r ++ t) := by rw [e]; exact List.drop_left' (num_length _)
  have hc : crc r = ((Dg.crc r).toNat : Int) := rfl
  have hc2 := (Dg.crc r).isLt
  have v2 : val ((form r ++ t).drop 8) = crc r := by rw [d8]; exact val_num _ (by omega) (by omega) _
  have d16 : (form r ++ t).drop 16 = r ++ t := by
    rw [show (16 : Nat) = 8 + 8 from rfl, ← List.drop_drop, d8]
    exact List.drop_left' (num_length _)
  unfold firstRow
  rw [if_neg (by omega), v1, v2, d16, show ((r.length : Nat) : Int).toNat = r.length by omega, List.take_left' rfl, if_neg (by rw [List.length_append]; omega), if_pos rfl]
theorem rowsAll_forms : ∀ L : List B, (∀ r ∈ L, r.length ≤ 16777216) → rowsAll (forms L) = some L
  | [], _ => rfl
  | r :: L, h => by
    have e : forms (r :: L) = form r ++ forms L := rfl
    have hne : form r ++ forms L ≠ [] := fun hn => by
      have := congrArg List.length hn
      rw [List.length_append, form_length] at this
      simp at this
    rw [e, rowsAll_some hne (firstRow_form r _ (h r (by simp))), ← form_length, List.drop_left' rfl, rowsAll_forms L (fun x hx => h x (by simp [hx]))]
    rfl
theorem row_short {L : List B} {r : B} (h : r ∈ L) : r.length ≤ (forms L).length := by
  induction L with
  | nil => cases h
  | cons x L ih =>
    have e : forms (x :: L) = form x ++ forms L := rfl
    rw [e, List.length_append, form_length]
    rcases List.mem_cons.1 h with rfl | h
    · omega
    · have := ih h; omega
/-- What a log's file holds. -/
def H (L : List B) : B := header L ++ forms L
theorem H_length (L : List B) : (H L).length = 16 + (forms L).length := by unfold H; rw [List.length_append, header_length]
theorem parse_H (L : List B) (r : B) (hL : (forms L).length ≤ 16777216) : parse (H L ++ r) = some (L, 16 + (forms L).length) := by
  have hc := forms_count L
  have e : H L ++ r = num (16 + ((forms L).length : Int)) ++ (num (L.length : Int) ++ (forms L ++ r)) := by unfold H header; simp only [List.append_assoc]
  have hl : (H L ++ r).length = 16 + (forms L).length + r.length := by rw [List.length_append, H_length]
  have v1 : val (H L ++ r) = 16 + ((forms L).length : Int) := by rw [e]; exact val_num _ (by omega) (by omega) _
  have d8 : (H L ++ r).drop 8 = num (L.length : Int) ++ (forms L ++ r) := by rw [e]; exact List.drop_left' (num_length _)
  have v2 : val ((H L ++ r).drop 8) = (L.length : Int) := by rw [d8]; exact val_num _ (by omega) (by omega) _
  have hn : (16 + ((forms L).length : Int)).toNat = 16 + (forms L).length := by omega
  have hk : ((H L ++ r).take (16 + (forms L).length)).drop 16 = forms L := by
    rw [List.take_left' (H_length L)]
    unfold H
    exact List.drop_left' (header_length L)
  unfold parse
  rw [v1, v2, hn, hk, if_neg (by omega), if_neg (by omega), rowsAll_forms L (fun x hx => Nat.le_trans (row_short hx) hL)]
  unfold fin
  dsimp only
  rw [if_pos rfl]
theorem parse_empty : parse [] = some ([], 16) := by
  unfold parse
  rw [if_pos (.inl (by simp))]
end Jn
namespace Dk
theorem overK_without (f : Nat) : ∀ (q : List Piece) (ks : List Int) (s : B), (∀ p ∈ q, p.f ≠ f) → overK f s q ks = s
  | [], ks, s, _ => by unfold overK; rfl
  | p :: q, [], s, _ => by unfold overK; rfl
  | p :: q, k :: ks, s, h => by
    unfold overK
    rw [if_neg (fun hc => h p (by simp) hc.1)]
    exact overK_without f q ks s fun x hx => h x (by simp [hx])
/-- The machine has crashed; file f is as it was. -/
structure Kept (D D' : Disk) (f : Nat) : Prop where
  down : D'.down = true
  queue : D'.queue = []
  last : D'.last f = D.last f
  lost : D'.lost = D.lost
  armed : D'.armed = 0
theorem crash_kept {D : Disk} (hd : D.down = false) (f : Nat) (ks : List Int) (hq : ∀ p ∈ D.queue, p.f ≠ f) : Kept D (crash D ks) f := by
  unfold crash
  rw [hd]
  exact ⟨rfl, rfl, overK_without f _ _ _ hq, rfl, rfl⟩
theorem comes_or {D : Disk} (hd : D.down = false) (f : Nat) (w : Option (Int × Int × B)) (hq : ∀ p ∈ D.queue, p.f ≠ f) (hw : ∀ g a s, w = some (g, a, s) → g.toNat ≠ f) :
    (D.armed ≠ 0 ∧ Kept D (comes D w) f) ∨ ∃ a, (D.armed = 0 → a = 0) ∧ comes D w = { D with armed := a } := by
  by_cases h0 : D.armed = 0
  · exact .inr ⟨0, fun _ => rfl, by unfold comes; rw [if_pos (.inr h0)]; cases D; simp at h0; simp [h0]⟩
  · unfold comes
    rw [if_neg (by rw [hd]; simp [h0])]
    by_cases h1 : 1 < D.armed
    · rw [if_pos h1]
      exact .inr ⟨D.armed - 1, fun h => absurd h h0, rfl⟩
    · rw [if_neg h1]
      refine .inl ⟨h0, ?_⟩
      cases w with
      | none =>
        have := crash_kept (D := { D with armed := 0 }) hd f D.keep hq
        exact ⟨this.down, this.queue, this.last, this.lost, this.armed⟩
      | some x =>
        obtain ⟨g, a, s⟩ := x
        dsimp only
        split
        · have := crash_kept (D := add { D with armed := 0 } g.toNat a.toNat s) hd f D.keep (fun p hp => by
            rcases List.mem_append.1 hp with h | h
            · exact hq p h
            · rw [(pieces_of _ _ _ _ p h).1]
              exact hw g a s rfl)
          exact ⟨this.down, this.queue, this.last, this.lost, this.armed⟩
        · have := crash_kept (D := { D with armed := 0 }) hd f D.keep hq
          exact ⟨this.down, this.queue, this.last, this.lost, this.armed⟩
end Dk
namespace Jn
open Dk (Disk)
/-- The disk behind a rewriting. -/
def RWd (D : Disk) (f fi : Nat) (X : List B) (a : Int) : Disk :=
  { D with last := Dk.setLast (Dk.setLast (Dk.setLast (Dk.setLast D.last fi []) fi (H X)) f (H X)) fi [], queue := [], armed := a }
open Dk in
theorem cut_or {D : Disk} (hd : D.down = false) (hq : D.queue = []) (f : Nat) (hf : f ≤ 6) {fi : Int} (hfi : fi = ((f + 1 : Nat) : Int)) :
    (D.armed ≠ 0 ∧ ∃ D', cut D fi 0 = (.down, D') ∧ Kept D D' f) ∨ ∃ a, (D.armed = 0 → a = 0) ∧ cut D fi 0 = (.ok, { D with armed := a, last := setLast D.last (f + 1) [], queue := [] }) := by
  rcases comes_or hd f none (by rw [hq]; intro p hp; cases hp) (fun _ _ _ h => by cases h) with ⟨h0, hk⟩ | ⟨a, ha, hc⟩
  · refine .inl ⟨h0, comes D none, ?_, hk⟩
    unfold cut cutB
    rw [may_down hk.down, if_neg (by decide)]
  · refine .inr ⟨a, ha, ?_⟩
    unfold cut cutB
    rw [hc, may_file (d := { D with armed := a }) hd (by omega) (by omega), if_pos rfl, if_neg (by omega), hfi]
    show (E.ok, _) = (E.ok, _)
    rw [show (((f + 1 : Nat) : Int)).toNat = f + 1 by omega, hq]
    simp [without]
open Dk in
theorem write_or {D : Disk} (hd : D.down = false) (hq : D.queue = []) (f : Nat) (hf : f ≤ 6) {fi : Int} (hfi : fi = ((f + 1 : Nat) : Int)) (S : B) (hS : fits 0 S = true) :
    (D.armed ≠ 0 ∧ ∃ D', write D fi 0 S = (.down, D') ∧ Kept D D' f) ∨ ∃ a, (D.armed = 0 → a = 0) ∧ write D fi 0 S = (.ok, { D with armed := a, queue := pieces (f + 1) S.length 0 S }) := by
  rcases comes_or hd f (some (fi, 0, S)) (by rw [hq]; intro p hp; cases hp) (fun g a t h => by injection h with h; injection h with h _; omega) with ⟨h0, hk⟩ | ⟨a, ha, hc⟩
  · refine .inl ⟨h0, _, ?_, hk⟩
    unfold write writeB
    rw [may_down hk.down, if_neg (by decide)]
  · refine .inr ⟨a, ha, ?_⟩
    unfold write writeB
    rw [hc, may_file (d := { D with armed := a }) hd (by omega) (by omega), if_pos rfl, if_neg (by omega), if_pos hS, hfi]
    show (E.ok, _) = (E.ok, _)
    rw [show (((f + 1 : Nat) : Int)).toNat = f + 1 by omega]
    unfold add
    rw [hq]
    rfl
open Dk in
theorem flush_or {D : Disk} (hd : D.down = false) (f : Nat) (hq : ∀ p ∈ D.queue, p.f = f + 1) (hl : D.lost ≤ 0) (hf : f ≤ 6) {fi : Int} (hfi : fi = ((f + 1 : Nat) : Int)) :
    (D.armed ≠ 0 ∧ ∃ D', flush D fi = (.down, D') ∧ Kept D D' f) ∨ ∃ a, (D.armed = 0 → a = 0) ∧ flush D fi = (.ok, { D with armed := a, last := setLast D.last (f + 1) (read D (f + 1)), queue := [] }) := by
  rcases comes_or hd f none (fun p hp => by rw [hq p hp]; omega) (fun _ _ _ h => by cases h) with ⟨h0, hk⟩ | ⟨a, ha, hc⟩
  · refine .inl ⟨h0, comes D none, ?_, hk⟩
    unfold flush flushB
    rw [may_down hk.down, if_neg (by decide)]
  · refine .inr ⟨a, ha, ?_⟩
    unfold flush flushB
    have hl2 : ¬ (0 : Int) < ({ D with armed := a } : Disk).lost := by show ¬ (0 : Int) < D.lost; omega
    rw [hc, may_file (d := { D with armed := a }) hd (by omega) (by omega), if_pos rfl, if_neg hl2, hfi]
    show (E.ok, _) = (E.ok, _)
    rw [show (((f + 1 : Nat) : Int)).toNat = f + 1 by omega]
    have hw : without D.queue (f + 1) = [] := by
      unfold without
      rw [List.filter_eq_nil_iff]
      intro p hp
      simp [hq p hp]
    show (E.ok, ({ D with armed := a, last := setLast D.last (f + 1) (read D (f + 1)), queue := without D.queue (f + 1) } : Disk)) = _
    rw [hw]
open Dk in
theorem turn_or {D : Disk} (hd : D.down = false) (hq : D.queue = []) (f : Nat) (hf : f ≤ 6) {fi : Int} (hfi : fi = ((f + 1 : Nat) : Int)) :
    (D.armed ≠ 0 ∧ ∃ D', turn D (f : Int) fi = (.down, D') ∧ Kept D D' f) ∨ ∃ a, (D.armed = 0 → a = 0) ∧ turn D (f : Int) fi = (.ok, { D with armed := a, last := setLast (setLast D.last f (D.last (f + 1))) (f + 1) [], queue := [] }) := by
  rcases comes_or hd f none (by rw [hq]; intro p hp; cases hp) (fun _ _ _ h => by cases h) with ⟨h0, hk⟩ | ⟨a, ha, hc⟩
  · refine .inl ⟨h0, comes D none, ?_, hk⟩
    unfold turn turnB
    rw [may_down hk.down, if_neg (by decide)]
  · refine .inr ⟨a, ha, ?_⟩
    unfold turn turnB
    rw [hc, may_file (d := { D with armed := a }) hd (by omega) (by omega), may_file (d := { D with armed := a }) hd (by omega) (by omega), if_pos rfl, if_pos rfl, if_neg (by omega), hfi]
    rw [show (((f + 1 : Nat) : Int)).toNat = f + 1 by omega, show ((f : Nat) : Int).toNat = f by omega]
    have hp : pending ({ D with armed := a } : Disk).queue (f + 1) = false := by show pending D.queue (f + 1) = false; rw [hq]; rfl
    rw [hp, if_neg (by decide)]
    show (E.ok, ({ D with armed := a, last := setLast (setLast D.last f (D.last (f + 1))) (f + 1) [], queue := without D.queue f } : Disk)) = _
    rw [hq]
    rfl
theorem Kept.from_ {D D1 D' : Disk} {f : Nat} (h : Dk.Kept D1 D' f) (hl : D1.last f = D.last f) (ho : D1.lost = D.lost) : Dk.Kept D D' f := ⟨h.down, h.queue, h.last.trans hl, h.lost.trans ho, h.armed⟩
/-- A rewriting succeeds, or a crash comes and leaves the file as it was. -/
theorem rewrite_or (D : Disk) (hd : D.down = false) (hq : D.queue = []) (hl : D.lost ≤ 0) (f : Nat) (hf : f ≤ 6) (R : List B) (s : Nat) (X : List B) (hX : (forms X).length ≤ 300000) :
    (∃ a, (D.armed = 0 → a = 0) ∧ rewriteL D f ((f + 1 : Nat) : Int) R s X = ⟨.ok, RWd D f (f + 1) X a, X, X.length⟩) ∨ (D.armed ≠ 0 ∧ ∃ D', rewriteL D f ((f + 1 : Nat) : Int) R s X = ⟨.down, D', R, s⟩ ∧ Dk.Kept D D' f) := by
  obtain ⟨fi, hfi⟩ : ∃ fi : Int, ((f + 1 : Nat) : Int) = fi := ⟨_, rfl⟩
  have hHl := H_length X
  have hHne : H X ≠ [] := fun h => by rw [h] at hHl; simp at hHl; omega
  have hfit : Dk.fits 0 (H X) = true := by unfold Dk.fits; rw [hHl]; simp; omega
  have hlast : ∀ b : B, Dk.setLast D.last (f + 1) b f = D.last f := fun b => by unfold Dk.setLast; rw [if_neg (by omega)]
  have hHX : header X ++ forms X = H X := rfl
  have hno : Dk.E.down ≠ Dk.E.ok := by decide
  rw [hfi]
  rcases cut_or hd hq f hf hfi.symm with ⟨h0, D', hc, hk⟩ | ⟨a1, ha1, hc⟩
  · refine .inr ⟨h0, D', ?_, hk⟩
    unfold rewriteL
    rw [hc, if_pos hno]
  rcases write_or (D := { D with armed := a1, last := Dk.setLast D.last (f + 1) [], queue := [] }) hd rfl f hf hfi.symm (H X) hfit with ⟨h0, D', hw, hk⟩ | ⟨a2, ha2, hw⟩
  · refine .inr ⟨fun h => h0 (ha1 h), D', ?_, Kept.from_ hk (hlast []) rfl⟩
    unfold rewriteL
    rw [hHX, hc]
    dsimp only
    rw [hw, if_neg (fun h => h rfl), if_pos hno]
  rcases flush_or (D := { D with armed := a2, last := Dk.setLast D.last (f + 1) [], queue := Dk.pieces (f + 1) (H X).length 0 (H X) }) hd f (fun p hp => (Dk.pieces_of _ _ _ _ p hp).1) hl hf hfi.symm with ⟨h0, D', hF, hk⟩ | ⟨a3, ha3, hF⟩
  · refine .inr ⟨fun h => h0 (ha2 (ha1 h)), D', ?_, Kept.from_ hk (hlast []) rfl⟩
    unfold rewriteL
    rw [hHX, hc]
    dsimp only
    rw [hw]
    dsimp only
    rw [hF, if_neg (fun h => h rfl), if_neg (fun h => h rfl), if_pos hno]
  have hrd : Dk.read { D with armed := a2, last := Dk.setLast D.last (f + 1) [], queue := Dk.pieces (f + 1) (H X).length 0 (H X) } (f + 1) = H X := by
    unfold Dk.read
    show Dk.over (f + 1) (Dk.setLast D.last (f + 1) [] (f + 1)) (Dk.pieces (f + 1) (H X).length 0 (H X)) = _
    rw [Dk.over_pieces (f + 1) _ _ _ _ (Nat.le_refl _) hHne]
    have e : Dk.setLast D.last (f + 1) [] (f + 1) = [] := by unfold Dk.setLast; rw [if_pos rfl]
    rw [e]
    exact Dk.put_end [] (H X)
  rw [hrd] at hF
  rcases turn_or (D := { D with armed := a3, last := Dk.setLast (Dk.setLast D.last (f + 1) []) (f + 1) (H X), queue := [] }) hd rfl f hf hfi.symm with ⟨h0, D', hT, hk⟩ | ⟨a4, ha4, hT⟩
  · refine .inr ⟨fun h => h0 (ha3 (ha2 (ha1 h))), D', ?_, Kept.from_ hk (by show Dk.setLast (Dk.setLast D.last (f + 1) []) (f + 1) (H X) f = _; unfold Dk.setLast; rw [if_neg (by omega), if_neg (by omega)]) rfl⟩
    unfold rewriteL
    rw [hHX, hc]
    dsimp only
    rw [hw]
    dsimp only
    rw [hF]
    dsimp only
    rw [hT, if_neg (fun h => h rfl), if_neg (fun h => h rfl), if_neg (fun h => h rfl), if_pos hno]
  · refine .inl ⟨a4, fun h => ha4 (ha3 (ha2 (ha1 h))), ?_⟩
    unfold rewriteL
    rw [hHX, hc]
    dsimp only
    rw [hw]
    dsimp only
    rw [hF]
    dsimp only
    rw [hT, if_neg (fun h => h rfl), if_neg (fun h => h rfl), if_neg (fun h => h rfl), if_neg (fun h => h rfl)]
    have e : Dk.setLast (Dk.setLast D.last (f + 1) []) (f + 1) (H X) (f + 1) = H X := by unfold Dk.setLast; rw [if_pos rfl]
    unfold RWd
    dsimp only
    rw [e]
theorem RWd_read (D : Disk) (f : Nat) (X : List B) (a : Int) : Dk.read (RWd D f (f + 1) X a) f = H X ∧ (RWd D f (f + 1) X a).last f = H X := by
  have e : (RWd D f (f + 1) X a).last f = H X := by
    show Dk.setLast (Dk.setLast (Dk.setLast (Dk.setLast D.last (f + 1) []) (f + 1) (H X)) f (H X)) (f + 1) [] f = H X
    unfold Dk.setLast
    rw [if_neg (by omega), if_pos rfl]
  exact ⟨e, e⟩
end Jn
end Go.Proofs.YtbpodclodflgfaaDoor
