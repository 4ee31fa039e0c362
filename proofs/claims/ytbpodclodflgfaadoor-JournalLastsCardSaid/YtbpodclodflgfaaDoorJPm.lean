/-
  The plain part of layer 6: what a crash at any call leaves of a log's file.
-/
import Derived.Test.YtbpodclodflgfaaDoorJTn
namespace Go.Proofs.YtbpodclodflgfaaDoor
open Go Go.RowKit
namespace Dk
/-- A call is counted, or the scheduled crash comes. -/
theorem comes_cases {D : Disk} (hd : D.down = false) (w : Option (Int × Int × B)) :
    (∃ a, (D.armed = 0 → a = 0) ∧ comes D w = { D with armed := a }) ∨
    (D.armed ≠ 0 ∧ comes D w = match w with
      | some (f, at_, s) => crash (if isFile f && fits at_ s then add { D with armed := 0 } f.toNat at_.toNat s else { D with armed := 0 }) D.keep
      | none => crash { D with armed := 0 } D.keep) := by
  by_cases h0 : D.armed = 0
  · exact .inl ⟨0, fun _ => rfl, by unfold comes; rw [if_pos (.inr h0)]; cases D; simp at h0; simp [h0]⟩
  · unfold comes
    rw [if_neg (by rw [hd]; simp [h0])]
    by_cases h1 : 1 < D.armed
    · rw [if_pos h1]
      exact .inl ⟨D.armed - 1, fun h => absurd h h0, rfl⟩
    · rw [if_neg h1]
      exact .inr ⟨h0, rfl⟩
theorem crash_isdown {D : Disk} (ks : List Int) : (crash D ks).down = true := by
  unfold crash
  split
  · assumption
  · rfl
theorem flush_cases {D : Disk} (hd : D.down = false) {f : Nat} (hf : f ≤ 11) :
    (D.armed ≠ 0 ∧ flush D f = (.down, crash { D with armed := 0 } D.keep)) ∨
    (0 < D.lost ∧ ∃ a, (D.armed = 0 → a = 0) ∧ flush D f = (.lost, { D with armed := a, lost := D.lost - 1 })) ∨
    (D.lost ≤ 0 ∧ ∃ a, (D.armed = 0 → a = 0) ∧ flush D f = (.ok, { D with armed := a, last := setLast D.last f (read D f), queue := without D.queue f })) := by
  rcases comes_cases hd none with ⟨a, ha, hc⟩ | ⟨h0, hc⟩
  · have hm : may ({ D with armed := a } : Disk) (f : Int) = .ok := may_file (d := { D with armed := a }) hd (by omega) (by omega)
    by_cases hl : 0 < D.lost
    · refine .inr (.inl ⟨hl, a, ha, ?_⟩)
      unfold flush flushB
      rw [hc, hm, if_pos rfl, if_pos (show 0 < ({ D with armed := a } : Disk).lost from hl)]
    · refine .inr (.inr ⟨by omega, a, ha, ?_⟩)
      unfold flush flushB
      rw [hc, hm, if_pos rfl, if_neg (show ¬ 0 < ({ D with armed := a } : Disk).lost from hl), Int.toNat_natCast]
      rfl
  · refine .inl ⟨h0, ?_⟩
    unfold flush flushB
    rw [hc, may_down (crash_isdown _), if_neg (by decide)]
theorem write_cases {D : Disk} (hd : D.down = false) {f at_ : Nat} (hf : f ≤ 11) {s : B} (hs : at_ + s.length ≤ 16777216) :
    (D.armed ≠ 0 ∧ write D f at_ s = (.down, crash (add { D with armed := 0 } f at_ s) D.keep)) ∨
    (∃ a, (D.armed = 0 → a = 0) ∧ write D f at_ s = (.ok, add { D with armed := a } f at_ s)) := by
  have hfit : fits (at_ : Int) s = true := fits_of (by omega) (by omega)
  have hfile : isFile (f : Int) = true := by unfold isFile; simp; omega
  rcases comes_cases hd (some ((f : Int), (at_ : Int), s)) with ⟨a, ha, hc⟩ | ⟨h0, hc⟩
  · refine .inr ⟨a, ha, ?_⟩
    unfold write writeB
    rw [hc, may_file (d := { D with armed := a }) hd (by omega) (by omega), if_pos rfl, if_neg (by omega), if_pos hfit, Int.toNat_natCast, Int.toNat_natCast]
  · refine .inl ⟨h0, ?_⟩
    dsimp only at hc
    rw [hfit, hfile, if_pos (show (true && true) = true from rfl), Int.toNat_natCast, Int.toNat_natCast] at hc
    unfold write writeB
    rw [hc, may_down (crash_isdown _), if_neg (by decide)]
theorem cut_cases {D : Disk} (hd : D.down = false) {f : Nat} (hf : f ≤ 11) :
    (D.armed ≠ 0 ∧ cut D f 0 = (.down, crash { D with armed := 0 } D.keep)) ∨
    (∃ a, (D.armed = 0 → a = 0) ∧ cut D f 0 = (.ok, { D with armed := a, last := setLast D.last f [], queue := without D.queue f })) := by
  rcases comes_cases hd none with ⟨a, ha, hc⟩ | ⟨h0, hc⟩
  · refine .inr ⟨a, ha, ?_⟩
    unfold cut cutB
    rw [hc, may_file (d := { D with armed := a }) hd (by omega) (by omega), if_pos rfl, if_neg (by omega), Int.toNat_natCast]
    rfl
  · refine .inl ⟨h0, ?_⟩
    unfold cut cutB
    rw [hc, may_down (crash_isdown _), if_neg (by decide)]
theorem turn_cases {D : Disk} (hd : D.down = false) {f g : Nat} (hf : f ≤ 11) (hg : g ≤ 11) (hne : f ≠ g) (hp : pending D.queue g = false) :
    (D.armed ≠ 0 ∧ turn D f g = (.down, crash { D with armed := 0 } D.keep)) ∨
    (∃ a, (D.armed = 0 → a = 0) ∧ turn D f g = (.ok, { D with armed := a, last := setLast (setLast D.last f (D.last g)) g [], queue := without D.queue f })) := by
  rcases comes_cases hd none with ⟨a, ha, hc⟩ | ⟨h0, hc⟩
  · refine .inr ⟨a, ha, ?_⟩
    unfold turn turnB
    rw [hc, may_file (d := { D with armed := a }) hd (by omega) (by omega), may_file (d := { D with armed := a }) hd (by omega) (by omega), if_pos rfl, if_pos rfl, if_neg (by omega), Int.toNat_natCast, Int.toNat_natCast, show pending ({ D with armed := a } : Disk).queue g = false from hp, if_neg (by decide)]
  · refine .inl ⟨h0, ?_⟩
    unfold turn turnB
    rw [hc, may_down (crash_isdown _), if_neg (by decide)]
end Dk
namespace Jn
open Dk (Disk)
theorem num0 : num 0 = List.replicate 8 0 := by decide +kernel
/-- No header: sixteen bytes 0, as far as there are any. -/
def Z (S : B) : Prop := ∀ i, i < 16 → S.getD i 0 = 0
/-- The file has these rows. -/
def Com (S : B) (L : List B) : Prop := (L = [] ∧ Z S) ∨ ∃ r, S = H L ++ r
/-- The forms stand behind the header. -/
def Fm (T : B) (R : List B) : Prop := ∀ i c, (forms R)[i]? = some c → T[16 + i]? = some c
theorem valN_zero {S : B} : ∀ j, (∀ i, i < j → S.getD i 0 = 0) → valN S j = 0
  | 0, _ => rfl
  | j + 1, h => by
    unfold valN
    rw [valN_zero j (fun i hi => h i (by omega)), h j (by omega)]
    simp
theorem com_parse {S : B} {L : List B} (h : Com S L) (hL : (forms L).length ≤ 16777216) : ∃ k, parse S = some (L, k) := by
  rcases h with ⟨rfl, hz⟩ | ⟨r, rfl⟩
  · refine ⟨16, ?_⟩
    unfold parse
    rw [if_pos (.inr (by unfold val; rw [valN_zero 8 (fun i hi => hz i (by omega))]; simp [wrap64]))]
  · exact ⟨_, parse_H L r hL⟩
theorem z_put {S : B} (h : Z S) {at_ : Nat} (t : B) (ha : 16 ≤ at_) : Z (Dk.put S at_ t) := fun i hi => by
  have := h i hi
  rw [List.getD_eq_getElem?_getD] at this ⊢
  rw [Dk.put_at, if_neg (by omega)]
  split
  · exact this
  · split <;> rfl
theorem com_put {S : B} {L : List B} (h : Com S L) {at_ : Nat} (t : B) (ha : 16 + (forms L).length ≤ at_) : Com (Dk.put S at_ t) L := by
  rcases h with ⟨rfl, hz⟩ | ⟨r, rfl⟩
  · exact .inl ⟨rfl, z_put hz t (by omega)⟩
  · have hl := H_length L
    have := Dk.put_take (H L ++ r) t at_ (H L).length (by omega) (by rw [List.length_append]; omega)
    rw [List.take_left' rfl] at this
    obtain ⟨P, hP⟩ : ∃ P, Dk.put (H L ++ r) at_ t = P := ⟨_, rfl⟩
    rw [hP] at this ⊢
    refine .inr ⟨P.drop (H L).length, ?_⟩
    have e := List.take_append_drop (H L).length P
    rw [this] at e
    exact e.symm
theorem com_over {f : Nat} {L : List B} : ∀ (q : List Dk.Piece) (S : B), Com S L → (∀ p ∈ q, p.f = f → 16 + (forms L).length ≤ p.at_) → Com (Dk.over f S q) L
  | [], S, h, _ => h
  | p :: q, S, h, hq => by
    rw [Dk.over_cons]
    refine com_over q _ ?_ (fun x hx => hq x (by simp [hx]))
    split
    · next hp => exact com_put h _ (hq p (by simp) hp)
    · exact h
theorem com_overK {f : Nat} {L : List B} : ∀ (q : List Dk.Piece) (ks : List Int) (S : B), Com S L → (∀ p ∈ q, p.f = f → 16 + (forms L).length ≤ p.at_) → Com (Dk.overK f S q ks) L
  | [], ks, S, h, _ => by unfold Dk.overK; exact h
  | p :: q, [], S, h, _ => by unfold Dk.overK; exact h
  | p :: q, k :: ks, S, h, hq => by
    unfold Dk.overK
    refine com_overK q ks _ ?_ (fun x hx => hq x (by simp [hx]))
    split
    · next hp => exact com_put h _ (hq p (by simp) hp.1)
    · exact h
/-- What a machine that is up keeps of a log through any crash. -/
structure QI (D : Disk) (f : Nat) (L : List B) : Prop where
  down : D.down = false
  com : Com (D.last f) L
  beh : ∀ p ∈ D.queue, p.f = f → 16 + (forms L).length ≤ p.at_
/-- What a crash left: the file has rows of which P holds. -/
structure Out (D : Disk) (f : Nat) (P : List B → Prop) : Prop where
  down : D.down = true
  queue : D.queue = []
  com : ∃ O, P O ∧ Com (D.last f) O
theorem qi_crash {D : Disk} {f : Nat} {L : List B} (h : QI D f L) (ks : List Int) {P : List B → Prop} (hP : P L) : Out (Dk.crash D ks) f P := by
  unfold Dk.crash
  rw [h.down]
  exact ⟨rfl, rfl, L, hP, com_overK _ _ _ h.com h.beh⟩
theorem QI.armed {D : Disk} {f : Nat} {L : List B} (h : QI D f L) (a : Int) : QI { D with armed := a } f L := ⟨h.down, h.com, h.beh⟩
theorem QI.add {D : Disk} {f : Nat} {L : List B} (h : QI D f L) {g at_ : Nat} (s : B) (hs : g = f → 16 + (forms L).length ≤ at_) : QI (Dk.add D g at_ s) f L :=
  ⟨h.down, h.com, fun p hp hpf => by
    rcases List.mem_append.1 hp with hp | hp
    · exact h.beh p hp hpf
    · obtain ⟨e1, k, m, e2, _⟩ := Dk.pieces_of _ _ _ _ p hp
      have := hs (e1.symm.trans hpf)
      omega⟩
theorem without_mem {q : List Dk.Piece} {f : Nat} {p : Dk.Piece} (h : p ∈ Dk.without q f) : p ∈ q ∧ p.f ≠ f := Dk.without_ne p h
/-- The log between two calls, on a machine that is up. -/
structure LI (D : Disk) (f : Nat) (R : List B) (s : Nat) : Prop where
  qi : QI D f (R.take s)
  le : s ≤ R.length
  fm : Fm (Dk.read D f) R
/-- What a call leaves of the rest. -/
structure Kp (D D' : Disk) (k : Nat) : Prop where
  queue : D'.queue.length ≤ D.queue.length + k
  armed : D.armed = 0 → D'.armed = 0
  lost : D.lost ≤ 0 → D'.lost ≤ 0
theorem Kp.refl (D : Disk) (k : Nat) : Kp D D k := ⟨by omega, id, id⟩
theorem Kp.trans {A B C : Disk} {j k : Nat} (h : Kp A B j) (g : Kp B C k) : Kp A C (j + k) := ⟨by have := h.queue; have := g.queue; omega, fun x => g.armed (h.armed x), fun x => g.lost (h.lost x)⟩
theorem Kp.mono {A B : Disk} {j k : Nat} (h : Kp A B j) (g : j ≤ k) : Kp A B k := ⟨by have := h.queue; omega, h.armed, h.lost⟩
theorem fm_append {T : B} {R X : List B} (h : Fm T R) : Fm (Dk.put T (16 + (forms R).length) (forms X)) (R ++ X) := fun i c hi => by
  rw [forms_append] at hi
  rw [Dk.put_at]
  by_cases hl : i < (forms R).length
  · rw [List.getElem?_append_left hl] at hi
    have := h i c hi
    rw [if_neg (by omega), if_pos (List.getElem?_eq_some_iff.1 this).1]
    exact this
  · rw [List.getElem?_append_right (by omega)] at hi
    have := (List.getElem?_eq_some_iff.1 hi).1
    rw [if_pos (by omega), show 16 + i - (16 + (forms R).length) = i - (forms R).length by omega]
    exact hi
theorem fm_drop {T : B} {R : List B} (h : Fm T R) : ∃ r, T.drop 16 = forms R ++ r := by
  refine ⟨(T.drop 16).drop (forms R).length, ?_⟩
  have e := List.take_append_drop (forms R).length (T.drop 16)
  have e2 : (T.drop 16).take (forms R).length = forms R := by
   refine List.ext_getElem? fun i => ?_
   by_cases hi : i < (forms R).length
   · have := h i _ (List.getElem?_eq_getElem hi)
     rw [List.getElem?_take_of_lt hi, List.getElem?_drop, this, List.getElem?_eq_getElem hi]
   · rw [List.getElem?_eq_none (l := forms R) (by omega), List.getElem?_eq_none (by rw [List.length_take]; omega)]
  rw [e2] at e
  exact e.symm
theorem put_header {T : B} {R : List B} (h : Fm T R) : ∃ r, Dk.put T 0 (header R) = H R ++ r := by
  obtain ⟨r, hr⟩ := fm_drop h
  have hl := header_length R
  by_cases hT : 16 ≤ T.length
  · refine ⟨r, ?_⟩
    unfold Dk.put
    rw [Nat.zero_add, hl, show 16 - T.length = 0 by omega]
    simp only [List.replicate_zero, List.append_nil, List.take_zero, List.nil_append]
    rw [hr]
    unfold H
    rw [List.append_assoc]
  · rw [List.drop_eq_nil_of_le (by omega)] at hr
    have hf : forms R = [] := (List.append_eq_nil_iff.1 hr.symm).1
    refine ⟨[], ?_⟩
    unfold Dk.put H
    rw [Nat.zero_add, hl, hf]
    simp only [List.take_zero, List.nil_append, List.append_nil]
    rw [List.drop_eq_nil_of_le (by rw [List.length_append, List.length_replicate]; omega), List.append_nil]
theorem fm_H (L : List B) (r : B) : Fm (H L ++ r) L := fun i c hi => by
  have hl := header_length L
  have hlt := (List.getElem?_eq_some_iff.1 hi).1
  unfold H
  rw [List.append_assoc, List.getElem?_append_right (by omega), hl, show 16 + i - 16 = i by omega, List.getElem?_append_left hlt]
  exact hi
theorem com_fm {S : B} {L : List B} (h : Com S L) : Fm S L := by
  rcases h with ⟨rfl, _⟩ | ⟨r, rfl⟩
  · intro i c hi; simp [forms] at hi
  · exact fm_H L r
/-- The header's piece: kept whole, or not at all. -/
theorem overK_header {f : Nat} {h S : B} (hh : h.length ≤ 24) : ∀ (q : List Dk.Piece) (ks : List Int), (∀ p ∈ q, p.f ≠ f) → Dk.overK f S (q ++ [⟨f, 0, h⟩]) ks = S ∨ Dk.overK f S (q ++ [⟨f, 0, h⟩]) ks = Dk.put S 0 h
  | [], [], _ => .inl (by unfold Dk.overK; rfl)
  | [], k :: ks, _ => by
    rw [List.nil_append]
    unfold Dk.overK
    rw [Dk.overK_nil]
    by_cases hk : k = 1 ∨ k = 2
    · rw [if_pos ⟨rfl, hk⟩]
      refine .inr ?_
      have : Dk.part ⟨f, 0, h⟩ (some k) = h := by
        unfold Dk.part
        rcases hk with rfl | rfl
        · rfl
        · rw [if_neg (by decide), if_pos rfl]
          exact List.take_of_length_le hh
      rw [this]
    · rw [if_neg (fun hc => hk hc.2)]
      exact .inl rfl
  | p :: q, [], _ => .inl (by unfold Dk.overK; rfl)
  | p :: q, k :: ks, hq => by
    rw [List.cons_append]
    unfold Dk.overK
    rw [if_neg (fun hc => hq p (by simp) hc.1)]
    exact overK_header hh q ks (fun x hx => hq x (by simp [hx]))
theorem header_pieces (f : Nat) (R : List B) : Dk.pieces f (header R).length 0 (header R) = [⟨f, 0, header R⟩] :=
  Dk.pieces_one f 0 (header R) (fun h => by have := header_length R; rw [h] at this; simp at this) (by rw [header_length]; decide) (by decide)
/-- A flush that succeeds. -/
theorem li_flush {D : Disk} {f : Nat} {R : List B} {s : Nat} (h : LI D f R s) (a : Int) : LI { D with armed := a, last := Dk.setLast D.last f (Dk.read D f), queue := Dk.without D.queue f } f R s := by
  have e : Dk.setLast D.last f (Dk.read D f) f = Dk.read D f := by unfold Dk.setLast; rw [if_pos rfl]
  refine ⟨⟨h.qi.down, ?_, fun p hp hpf => absurd hpf (without_mem hp).2⟩, h.le, ?_⟩
  · show Com (Dk.setLast D.last f (Dk.read D f) f) _
    rw [e]
    exact com_over _ _ h.qi.com h.qi.beh
  · have : Dk.read { D with armed := a, last := Dk.setLast D.last f (Dk.read D f), queue := Dk.without D.queue f } f = Dk.read D f := Dk.read_durable D f (Dk.read D f)
    rw [this]
    exact h.fm
theorem flush_keeps (D : Disk) (f : Nat) (S : B) (a : Int) (ha : D.armed = 0 → a = 0) : Kp D { D with armed := a, last := Dk.setLast D.last f S, queue := Dk.without D.queue f } 0 := ⟨Dk.without_len _ _, ha, id⟩
theorem lost_keeps (D : Disk) (a : Int) (ha : D.armed = 0 → a = 0) : Kp D { D with armed := a, lost := D.lost - 1 } 0 := ⟨Nat.le_refl _, ha, fun h => by show D.lost - 1 ≤ 0; omega⟩
theorem add_keeps (D : Disk) (f at_ : Nat) (s : B) (a : Int) (ha : D.armed = 0 → a = 0) : Kp D (Dk.add { D with armed := a } f at_ s) s.length := ⟨Dk.add_queue { D with armed := a } f at_ s, ha, id⟩
theorem nd : Dk.E.down ≠ Dk.E.ok := by decide
theorem nl : Dk.E.lost ≠ Dk.E.ok := by decide
/-- What Flush does. -/
theorem flushL_out {D : Disk} {f : Nat} {R : List B} {s : Nat} (h : LI D f R s) (hf : f ≤ 6) :
    ((flushL D f R s).e = .ok ∧ LI (flushL D f R s).d f R (flushL D f R s).s ∧ (flushL D f R s).s = R.length ∧ Kp D (flushL D f R s).d 16) ∨
    ((flushL D f R s).e = .lost ∧ 0 < D.lost ∧ LI (flushL D f R s).d f R (flushL D f R s).s ∧ (flushL D f R s).s = s ∧ Kp D (flushL D f R s).d 16) ∨
    ((flushL D f R s).e = .down ∧ D.armed ≠ 0 ∧ Out (flushL D f R s).d f (fun O => O = R.take s ∨ O = R)) := by
  have hno : ¬ Dk.E.ok ≠ Dk.E.ok := fun h => h rfl
  by_cases hs : s < R.length
  · rcases Dk.flush_cases h.qi.down (f := f) (by omega) with ⟨h0, hF⟩ | ⟨h0, a, ha, hF⟩ | ⟨h0, a, ha, hF⟩
    · refine .inr (.inr ?_)
      unfold flushL
      rw [if_pos hs, hF, if_pos nd]
      exact ⟨rfl, h0, qi_crash (h.qi.armed 0) _ (.inl rfl)⟩
    · refine .inr (.inl ?_)
      unfold flushL
      rw [if_pos hs, hF, if_pos nl]
      exact ⟨rfl, h0, ⟨⟨h.qi.down, h.qi.com, h.qi.beh⟩, h.le, h.fm⟩, rfl, (lost_keeps D a ha).mono (by omega)⟩
    · have h1 := li_flush h a
      have k1 := flush_keeps D f (Dk.read D f) a ha
      obtain ⟨D1, hD1⟩ : ∃ D1, ({ D with armed := a, last := Dk.setLast D.last f (Dk.read D f), queue := Dk.without D.queue f } : Disk) = D1 := ⟨_, rfl⟩
      have hq1 : ∀ p ∈ D1.queue, p.f ≠ f := by rw [← hD1]; exact fun p hp => (without_mem hp).2
      have hl1 : D1.lost ≤ 0 := by rw [← hD1]; exact h0
      rw [hD1] at hF h1 k1
      have hr1 : Dk.read D1 f = D1.last f := Dk.over_without f _ _ hq1
      have hT : ∃ r, Dk.put (D1.last f) 0 (header R) = H R ++ r := put_header (by rw [← hr1]; exact h1.fm)
      have hout : ∀ (D2 : Disk) (ks : List Int), D2.down = false → D2.last f = D1.last f → D2.queue = D1.queue ++ Dk.pieces f (header R).length 0 (header R) → Out (Dk.crash D2 ks) f (fun O => O = R.take s ∨ O = R) := fun D2 ks hd hl hq => by
        unfold Dk.crash
        rw [hd, if_neg (by decide)]
        refine ⟨rfl, rfl, ?_⟩
        show ∃ O, _ ∧ Com (Dk.overK f (D2.last f) D2.queue ks) O
        rw [hl, hq, header_pieces]
        rcases overK_header (f := f) (h := header R) (S := D1.last f) (by rw [header_length]; decide) D1.queue ks hq1 with e | e
        · exact ⟨R.take s, .inl rfl, by rw [e]; exact h1.qi.com⟩
        · exact ⟨R, .inr rfl, by rw [e]; exact .inr hT⟩
      rcases Dk.write_cases h1.qi.down (f := f) (at_ := 0) (s := header R) (by omega) (by rw [header_length]; decide) with ⟨h2, hW⟩ | ⟨a2, ha2, hW⟩
      · refine .inr (.inr ?_)
        have hW2 : Dk.write D1 f 0 (header R) = _ := hW
        unfold flushL
        rw [if_pos hs, hF, if_neg hno, hW2, if_pos nd]
        exact ⟨rfl, fun h => h2 (k1.armed h), hout _ _ h1.qi.down rfl rfl⟩
      · have hW2 : Dk.write D1 f 0 (header R) = _ := hW
        have k2 := add_keeps D1 f 0 (header R) a2 ha2
        have hr2 : Dk.read (Dk.add { D1 with armed := a2 } f 0 (header R)) f = Dk.put (D1.last f) 0 (header R) := by
          rw [Dk.read_add _ _ _ _ (fun h => by have := header_length R; rw [h] at this; simp at this)]
          rw [show Dk.read ({ D1 with armed := a2 } : Disk) f = Dk.read D1 f from rfl, hr1]
        obtain ⟨D2, hD2⟩ : ∃ D2, Dk.add { D1 with armed := a2 } f 0 (header R) = D2 := ⟨_, rfl⟩
        have hd2 : D2.down = false := by rw [← hD2]; exact h1.qi.down
        have hl2 : D2.lost ≤ 0 := by rw [← hD2]; exact hl1
        have he2 : D2.last f = D1.last f := by rw [← hD2]; rfl
        have hqq : D2.queue = D1.queue ++ Dk.pieces f (header R).length 0 (header R) := by rw [← hD2]; rfl
        rw [hD2] at hW2 k2 hr2
        rcases Dk.flush_cases hd2 (f := f) (by omega) with ⟨h3, hG⟩ | ⟨h3, _⟩ | ⟨h3, a3, ha3, hG⟩
        · refine .inr (.inr ?_)
          unfold flushL
          rw [if_pos hs, hF, if_neg hno, hW2, if_neg hno, hG, if_pos nd]
          exact ⟨rfl, fun h => h3 (k2.armed (k1.armed h)), hout { D2 with armed := 0 } _ hd2 he2 hqq⟩
        · omega
        · refine .inl ?_
          have k3 := flush_keeps D2 f (Dk.read D2 f) a3 ha3
          unfold flushL
          rw [if_pos hs, hF, if_neg hno, hW2, if_neg hno, hG, if_neg hno]
          obtain ⟨r, hr⟩ := hT
          have e3 : Dk.setLast D2.last f (Dk.read D2 f) f = H R ++ r := by unfold Dk.setLast; rw [if_pos rfl, hr2, hr]
          have hk := (k1.trans k2).trans k3
          rw [header_length] at hk
          refine ⟨rfl, ⟨⟨hd2, .inr ⟨r, ?_⟩, fun p hp hpf => absurd hpf (without_mem hp).2⟩, Nat.le_refl _, ?_⟩, rfl, hk⟩
          · show Dk.setLast D2.last f (Dk.read D2 f) f = _
            rw [e3, List.take_length]
          · have : Dk.read ({ D2 with armed := a3, last := Dk.setLast D2.last f (Dk.read D2 f), queue := Dk.without D2.queue f } : Disk) f = Dk.read D2 f := Dk.read_durable D2 f (Dk.read D2 f)
            rw [this, hr2, hr]
            exact fm_H R r
  · refine .inl ?_
    unfold flushL
    rw [if_neg hs, h.qi.down, if_neg (by decide)]
    exact ⟨rfl, h, by have := h.le; show s = R.length; omega, Kp.refl D 16⟩
/-- An addition that succeeds. -/
theorem li_add {D : Disk} {f : Nat} {R : List B} {s : Nat} (h : LI D f R s) (a : Int) (X : List B) (hX : X ≠ []) : LI (Dk.add { D with armed := a } f (16 + (forms R).length) (forms X)) f (R ++ X) s := by
  have hle := forms_take_le R s
  have hne : forms X ≠ [] := fun e => by
    cases X with
    | nil => exact hX rfl
    | cons x X =>
      have := congrArg List.length e
      rw [show forms (x :: X) = form x ++ forms X from rfl, List.length_append, form_length] at this
      simp at this
  have e : (R ++ X).take s = R.take s := List.take_append_of_le_length h.le
  refine ⟨?_, by rw [List.length_append]; have := h.le; omega, ?_⟩
  · rw [e]
    exact (h.qi.armed a).add _ (fun _ => by omega)
  · rw [Dk.read_add _ _ _ _ hne]
    exact fm_append h.fm
theorem add_out {D : Disk} {f : Nat} {R : List B} {s : Nat} (h : LI D f R s) (hf : f ≤ 6) (X : List B) (hX : X ≠ []) (hb : 16 + (forms R).length + (forms X).length ≤ 16777216) :
    ((Dk.write D f ((16 + (forms R).length : Nat) : Int) (forms X)).1 = .ok ∧ LI (Dk.write D f ((16 + (forms R).length : Nat) : Int) (forms X)).2 f (R ++ X) s ∧ Kp D (Dk.write D f ((16 + (forms R).length : Nat) : Int) (forms X)).2 (forms X).length) ∨
    ((Dk.write D f ((16 + (forms R).length : Nat) : Int) (forms X)).1 = .down ∧ D.armed ≠ 0 ∧ Out (Dk.write D f ((16 + (forms R).length : Nat) : Int) (forms X)).2 f (fun O => O = R.take s)) := by
  rcases Dk.write_cases h.qi.down (f := f) (at_ := 16 + (forms R).length) (s := forms X) (by omega) hb with ⟨h0, hW⟩ | ⟨a, ha, hW⟩
  · refine .inr ?_
    rw [hW]
    have hle := forms_take_le R s
    exact ⟨rfl, h0, qi_crash ((h.qi.armed 0).add _ (fun _ => by omega)) _ rfl⟩
  · refine .inl ?_
    rw [hW]
    exact ⟨rfl, li_add h a X hX, add_keeps D f _ _ a ha⟩
/-- What Batch does. -/
theorem batchL_out {D : Disk} {f : Nat} {R : List B} {s : Nat} (h : LI D f R s) (hf : f ≤ 6) (X : List B) (hb : 16 + (forms R).length + (forms X).length ≤ 16777216) :
    ((batchL D f R s X).e = .ok ∧ LI (batchL D f R s X).d f (R ++ X) (batchL D f R s X).s ∧ (batchL D f R s X).r = R ++ X ∧ (batchL D f R s X).s = (R ++ X).length ∧ Kp D (batchL D f R s X).d ((forms X).length + 16)) ∨
    ((batchL D f R s X).e = .lost ∧ 0 < D.lost ∧ LI (batchL D f R s X).d f (R ++ X) s ∧ (batchL D f R s X).r = R ++ X ∧ (batchL D f R s X).s = s ∧ Kp D (batchL D f R s X).d ((forms X).length + 16)) ∨
    ((batchL D f R s X).e = .down ∧ D.armed ≠ 0 ∧ Out (batchL D f R s X).d f (fun O => O = R.take s ∨ O = R ++ X)) := by
  have hno : ¬ Dk.E.ok ≠ Dk.E.ok := fun h => h rfl
  by_cases hX : X = []
  · subst hX
    unfold batchL
    rw [if_pos rfl, List.append_nil]
    rcases flushL_out h hf with ⟨a, b, c, d⟩ | ⟨a, a2, b, c, d⟩ | ⟨a, b, c⟩
    · exact .inl ⟨a, b, rfl, c, d.mono (by omega)⟩
    · exact .inr (.inl ⟨a, a2, by rw [c] at b; exact b, rfl, c, d.mono (by omega)⟩)
    · exact .inr (.inr ⟨a, b, c⟩)
  · unfold batchL
    rw [if_neg hX]
    rcases add_out h hf X hX hb with ⟨a, b, c⟩ | ⟨a, b, c⟩
    · rw [a, if_neg hno]
      have e : (R ++ X).take s = R.take s := List.take_append_of_le_length h.le
      obtain ⟨D1, hD1⟩ : ∃ D1, (Dk.write D f ((16 + (forms R).length : Nat) : Int) (forms X)).2 = D1 := ⟨_, rfl⟩
      rw [hD1] at b c ⊢
      rcases flushL_out b hf with ⟨a1, b1, c1, d1⟩ | ⟨a1, a2, b1, c1, d1⟩ | ⟨a1, b1, c1⟩
      · exact .inl ⟨a1, b1, rfl, c1, c.trans d1⟩
      · refine .inr (.inl ⟨a1, ?_, by rw [c1] at b1; exact b1, rfl, c1, c.trans d1⟩)
        by_cases hl : D.lost ≤ 0
        · have := c.lost hl; omega
        · omega
      · rw [e] at c1
        exact .inr (.inr ⟨a1, fun h0 => b1 (c.armed h0), c1⟩)
    · rw [a, if_pos nd]
      obtain ⟨O, hO, hC⟩ := c.com
      exact .inr (.inr ⟨rfl, b, c.down, c.queue, O, .inl hO, hC⟩)
theorem over_without_other (f g : Nat) (hne : g ≠ f) : ∀ (q : List Dk.Piece) (S : B), Dk.over f S (Dk.without q g) = Dk.over f S q
  | [], S => rfl
  | p :: q, S => by
    unfold Dk.without
    rw [List.filter_cons]
    by_cases hp : p.f = g
    · rw [if_neg (by simp [hp]), Dk.over_cons, if_neg (by rw [hp]; exact hne)]
      exact over_without_other f g hne q S
    · rw [if_pos (by simp [hp]), Dk.over_cons, Dk.over_cons]
      exact over_without_other f g hne q _
/-- A change of another file. -/
theorem li_other {D : Disk} {f g : Nat} {R : List B} {s : Nat} (h : LI D f R s) (hne : g ≠ f) (a : Int) (S : B) : LI { D with armed := a, last := Dk.setLast D.last g S, queue := Dk.without D.queue g } f R s := by
  have e : Dk.setLast D.last g S f = D.last f := by unfold Dk.setLast; rw [if_neg (fun h => hne h.symm)]
  refine ⟨⟨h.qi.down, ?_, fun p hp hpf => h.qi.beh p (without_mem hp).1 hpf⟩, h.le, ?_⟩
  · show Com (Dk.setLast D.last g S f) _
    rw [e]
    exact h.qi.com
  · show Fm (Dk.over f (Dk.setLast D.last g S f) (Dk.without D.queue g)) R
    rw [e, over_without_other f g hne]
    exact h.fm
theorem li_add_other {D : Disk} {f g : Nat} {R : List B} {s : Nat} (h : LI D f R s) (hne : g ≠ f) (a : Int) (at_ : Nat) (S : B) : LI (Dk.add { D with armed := a } g at_ S) f R s := by
  refine ⟨(h.qi.armed a).add _ (fun e => absurd e hne), h.le, ?_⟩
  rw [Dk.read_add_other _ _ _ _ _ hne]
  exact h.fm
theorem li_armed {D : Disk} {f : Nat} {R : List B} {s : Nat} (h : LI D f R s) (a : Int) : LI { D with armed := a } f R s := ⟨h.qi.armed a, h.le, h.fm⟩
theorem pending_without (q : List Dk.Piece) (f : Nat) : Dk.pending (Dk.without q f) f = false := by
  unfold Dk.pending
  rw [Bool.eq_false_iff]
  intro h
  obtain ⟨p, hp, hpf⟩ := List.any_eq_true.1 h
  exact (without_mem hp).2 (by simpa using hpf)
/-- What Rewrite does. -/
theorem rewriteL_out {D : Disk} {f : Nat} {R : List B} {s : Nat} (h : LI D f R s) (hf : f ≤ 6) (X : List B) (hb : 16 + (forms X).length ≤ 16777216) :
    ((rewriteL D f ((f + 1 : Nat) : Int) R s X).e = .ok ∧ LI (rewriteL D f ((f + 1 : Nat) : Int) R s X).d f X (rewriteL D f ((f + 1 : Nat) : Int) R s X).s ∧ (rewriteL D f ((f + 1 : Nat) : Int) R s X).r = X ∧ (rewriteL D f ((f + 1 : Nat) : Int) R s X).s = X.length ∧ Kp D (rewriteL D f ((f + 1 : Nat) : Int) R s X).d ((forms X).length + 16)) ∨
    ((rewriteL D f ((f + 1 : Nat) : Int) R s X).e = .lost ∧ 0 < D.lost ∧ LI (rewriteL D f ((f + 1 : Nat) : Int) R s X).d f R s ∧ (rewriteL D f ((f + 1 : Nat) : Int) R s X).r = R ∧ (rewriteL D f ((f + 1 : Nat) : Int) R s X).s = s ∧ Kp D (rewriteL D f ((f + 1 : Nat) : Int) R s X).d ((forms X).length + 16)) ∨
    ((rewriteL D f ((f + 1 : Nat) : Int) R s X).e = .down ∧ D.armed ≠ 0 ∧ Out (rewriteL D f ((f + 1 : Nat) : Int) R s X).d f (fun O => O = R.take s)) := by
  have hno : ¬ Dk.E.ok ≠ Dk.E.ok := fun h => h rfl
  have hne : f + 1 ≠ f := by omega
  have hHl := H_length X
  have hHne : H X ≠ [] := fun e => by rw [e] at hHl; simp at hHl; omega
  have hHX : header X ++ forms X = H X := rfl
  unfold rewriteL
  rw [hHX]
  rcases Dk.cut_cases h.qi.down (f := f + 1) (by omega) with ⟨h0, h1⟩ | ⟨a1, ha1, h1⟩
  · rw [h1, if_pos nd]
    exact .inr (.inr ⟨rfl, h0, qi_crash (h.qi.armed 0) _ rfl⟩)
  rw [h1, if_neg hno]
  have l1 := li_other h hne a1 []
  have k1 : Kp D _ 0 := flush_keeps D (f + 1) [] a1 ha1
  have q1 : ∀ p ∈ ({ D with armed := a1, last := Dk.setLast D.last (f + 1) [], queue := Dk.without D.queue (f + 1) } : Disk).queue, p.f ≠ f + 1 := fun p hp => (without_mem hp).2
  have e1 : ({ D with armed := a1, last := Dk.setLast D.last (f + 1) [], queue := Dk.without D.queue (f + 1) } : Disk).last (f + 1) = [] := by
    show Dk.setLast D.last (f + 1) [] (f + 1) = []
    unfold Dk.setLast
    rw [if_pos rfl]
  obtain ⟨D1, hD1⟩ : ∃ D1, ({ D with armed := a1, last := Dk.setLast D.last (f + 1) [], queue := Dk.without D.queue (f + 1) } : Disk) = D1 := ⟨_, rfl⟩
  rw [hD1] at l1 k1 q1 e1 ⊢
  rcases Dk.write_cases l1.qi.down (f := f + 1) (at_ := 0) (s := H X) (by omega) (by omega) with ⟨h0, h2⟩ | ⟨a2, ha2, h2⟩
  · have h2' : Dk.write D1 ((f + 1 : Nat) : Int) 0 (H X) = _ := h2
    rw [h2', if_pos nd]
    exact .inr (.inr ⟨rfl, fun hz => h0 (k1.armed hz), qi_crash ((l1.qi.armed 0).add _ (fun e => absurd e hne)) _ rfl⟩)
  have h2' : Dk.write D1 ((f + 1 : Nat) : Int) 0 (H X) = _ := h2
  rw [h2', if_neg hno]
  have l2 := li_add_other l1 hne a2 0 (H X)
  have k2 := add_keeps D1 (f + 1) 0 (H X) a2 ha2
  have r2 : Dk.read (Dk.add { D1 with armed := a2 } (f + 1) 0 (H X)) (f + 1) = H X := by
    rw [Dk.read_add _ _ _ _ hHne]
    have : Dk.read ({ D1 with armed := a2 } : Disk) (f + 1) = [] := by
      show Dk.over (f + 1) (D1.last (f + 1)) D1.queue = []
      rw [Dk.over_without _ _ _ q1, e1]
    rw [this]
    exact Dk.put_end [] (H X)
  obtain ⟨D2, hD2⟩ : ∃ D2, Dk.add { D1 with armed := a2 } (f + 1) 0 (H X) = D2 := ⟨_, rfl⟩
  rw [hD2] at l2 k2 r2 ⊢
  rcases Dk.flush_cases l2.qi.down (f := f + 1) (by omega) with ⟨h0, h3⟩ | ⟨h0, a3, ha3, h3⟩ | ⟨h0, a3, ha3, h3⟩
  · rw [h3, if_pos nd]
    exact .inr (.inr ⟨rfl, fun hz => h0 (k2.armed (k1.armed hz)), qi_crash (l2.qi.armed 0) _ rfl⟩)
  · rw [h3, if_pos nl]
    refine .inr (.inl ⟨rfl, ?_, ⟨⟨l2.qi.down, l2.qi.com, l2.qi.beh⟩, l2.le, l2.fm⟩, rfl, rfl, ((k1.trans k2).trans (lost_keeps D2 a3 ha3)).mono (by omega)⟩)
    by_cases hl : D.lost ≤ 0
    · have := k2.lost (k1.lost hl); omega
    · omega
  rw [h3, if_neg hno]
  have l3 := li_other l2 hne a3 (Dk.read D2 (f + 1))
  have k3 := flush_keeps D2 (f + 1) (Dk.read D2 (f + 1)) a3 ha3
  have e3 : ({ D2 with armed := a3, last := Dk.setLast D2.last (f + 1) (Dk.read D2 (f + 1)), queue := Dk.without D2.queue (f + 1) } : Disk).last (f + 1) = H X := by
    show Dk.setLast D2.last (f + 1) (Dk.read D2 (f + 1)) (f + 1) = H X
    unfold Dk.setLast
    rw [if_pos rfl, r2]
  have p3 : Dk.pending ({ D2 with armed := a3, last := Dk.setLast D2.last (f + 1) (Dk.read D2 (f + 1)), queue := Dk.without D2.queue (f + 1) } : Disk).queue (f + 1) = false := pending_without _ _
  obtain ⟨D3, hD3⟩ : ∃ D3, ({ D2 with armed := a3, last := Dk.setLast D2.last (f + 1) (Dk.read D2 (f + 1)), queue := Dk.without D2.queue (f + 1) } : Disk) = D3 := ⟨_, rfl⟩
  rw [hD3] at l3 k3 e3 p3 ⊢
  have k123 := (k1.trans k2).trans k3
  rcases Dk.turn_cases l3.qi.down (f := f) (g := f + 1) (by omega) (by omega) (by omega) p3 with ⟨h0, h4⟩ | ⟨a4, ha4, h4⟩
  · rw [h4, if_pos nd]
    exact .inr (.inr ⟨rfl, fun hz => h0 (k123.armed hz), qi_crash (l3.qi.armed 0) _ rfl⟩)
  rw [h4, if_neg hno]
  have e4 : Dk.setLast (Dk.setLast D3.last f (D3.last (f + 1))) (f + 1) [] f = H X := by
    unfold Dk.setLast
    rw [if_neg (by omega), if_pos rfl, e3]
  have hq4 : ∀ p ∈ Dk.without D3.queue f, p.f ≠ f := fun p hp => (without_mem hp).2
  refine .inl ⟨rfl, ⟨⟨l3.qi.down, .inr ⟨[], ?_⟩, fun p hp hpf => absurd hpf (hq4 p hp)⟩, Nat.le_refl _, ?_⟩, rfl, rfl, ⟨?_, fun hz => ha4 (k123.armed hz), fun hl => k123.lost hl⟩⟩
  · show Dk.setLast (Dk.setLast D3.last f (D3.last (f + 1))) (f + 1) [] f = _
    rw [e4, List.take_length, List.append_nil]
  · show Fm (Dk.over f (Dk.setLast (Dk.setLast D3.last f (D3.last (f + 1))) (f + 1) [] f) (Dk.without D3.queue f)) X
    rw [Dk.over_without _ _ _ hq4, e4]
    have := fm_H X []
    rwa [List.append_nil] at this
  · have := k123.queue
    have h5 : (Dk.without D3.queue f).length ≤ D3.queue.length := Dk.without_len _ _
    show (Dk.without D3.queue f).length ≤ _
    omega
/-- Behind a crash, when the machine runs again. -/
theorem li_after {D D' : Disk} {f : Nat} {P : List B → Prop} (h : Out D f P) (hd : D'.down = false) (hl : D'.last f = D.last f) (hq : D'.queue = []) (hP : ∀ O, P O → (forms O).length ≤ 16777216) :
    ∃ O k, P O ∧ parse (Dk.read D' f) = some (O, k) ∧ LI D' f O O.length := by
  obtain ⟨O, hO, hC⟩ := h.com
  have hr : Dk.read D' f = D.last f := by
    unfold Dk.read
    rw [hq, hl]
    rfl
  obtain ⟨k, hk⟩ := com_parse hC (hP O hO)
  refine ⟨O, k, hO, by rw [hr]; exact hk, ⟨hd, by rw [List.take_length, hl]; exact hC, fun p hp => by rw [hq] at hp; cases hp⟩, Nat.le_refl _, ?_⟩
  rw [hr]
  exact com_fm hC
theorem li_new (f : Nat) : LI Dk.new f [] 0 := ⟨⟨rfl, .inl ⟨rfl, fun i _ => rfl⟩, fun p hp => by cases hp⟩, Nat.le_refl _, fun i c hi => by simp [forms] at hi⟩
end Jn
end Go.Proofs.YtbpodclodflgfaaDoor
