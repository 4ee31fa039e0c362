/-
  without of the law's text.
-/
import Derived.Test.YtbpodclodflgfaaLWi
namespace Go.Proofs.Ytbpodclodflgfaa
open Go Go.RowKit
theorem own_below {w w' : World} {base : Nat} {e : TypeId} {sz : Nat} {v : Value} {n : Nat} {xs : List Value} (h : w.ownsRow base e sz v n xs) (hb : Below w.heap.size w w') : w'.ownsRow base e sz v n xs := by
  obtain ⟨h1, h | ⟨g, cap, cur, rfl, h2, hg, h3, h4, h5, h6⟩⟩ := h
  · exact ⟨h1, .inl h⟩
  · exact ⟨h1, .inr ⟨g, cap, cur, rfl, h2, (hb.block g (Array.getElem?_eq_some_iff.1 hg).1).trans hg, h3, h4, h5, h6⟩⟩
theorem below_grown {B : Nat} {w wr w1 : World} {r : Option Nat} (h : Below B w wr) (hB : B ≤ w.heap.size) (hg : wr.grownBy w1 r) (hr : ∀ b, r = some b → B ≤ b) : Below B w w1 :=
  ⟨hg.os.trans h.os, hg.tape.trans h.tape, hg.output.trans h.output, Nat.le_trans h.size hg.size, fun i hi => (hg.block i (Nat.lt_of_lt_of_le (Nat.lt_of_lt_of_le hi hB) h.size) (fun e => by have := hr i e.symm; omega)).trans (h.block i hi)⟩
theorem own_from {w : World} {base : Nat} {e : TypeId} {sz : Nat} {v : Value} {n : Nat} {xs : List Value} (h : w.ownsRow base e sz v n xs) : ∀ b, v.ownBlock = some b → base ≤ b := fun b hb => by
  obtain ⟨_, ⟨rfl, _⟩ | ⟨g, cap, cur, rfl, h2, _⟩⟩ := h
  · cases hb
  · injection hb with hb
    subst hb
    exact h2
section
variable {w : World} {ops : Array Oper} {o : Oper} {a : Act} {Q : Exit → Act → World → Prop} {rest : List Oper}
theorem wpList_app_act (hgd : o.guard = none) (s x : Operand) (ho : o.op = .call { callee := .builtin .append, args := #[s, x], argTypes := #[22, 22] })
    {v : Value} {L : List AH} (base : Nat) (hs : a.eval s = v) (hown : w.ownsRow base 32 6 v L.length (av L)) (ad : Addr) (c : Nat) (p : AH) (hx : a.eval x = .slice (some ad) 1 c) (hnews : ∀ j u, (ah p)[j]? = some u → w.cell? (ad.add j) = some u) (hbig : L.length ≤ 1000000) (hbase : base ≤ w.heap.size)
    (h : ∀ v' w', w'.ownsRow base 32 6 v' (L ++ [p]).length (av (L ++ [p])) → w.grownBy w' v.ownBlock → SF w v v' → wpList Try.prog ops Q rest (a.put o.dst v') w') : wpList Try.prog ops Q (o :: rest) a w :=
  wpList_plain hgd fun _ hK => by
    have hst := step_app_act (ops := ops) (E := True) (Q := Q) (o := o) hgd s x ho base hs hown ad c p hx hnews hbig hbase (fun v' w' h1 h2 h3 => hK _ _ (h v' w' h1 h2 h3))
    rw [if_pos (by simp [Region.wanted, hgd])] at hst
    exact hst
end
theorem new_act (w : World) (p : AH) : ∀ j u, (ah p)[j]? = some u → (w.alloc (.cells #[.int .i64 p.a.do_, .int .i64 p.a.f, .int .i64 p.a.g, .int .i64 p.a.n, .string (enc p.a.s), .slice p.ka p.kn p.kcap] 32)).cell? (Addr.add ⟨w.heap.size, 0, none⟩ j) = some u := fun j u hj => by
  have h2 : (⟨w.heap.size, 0, none⟩ : Addr).add j = ⟨w.heap.size, j, none⟩ := by unfold Addr.add; split <;> simp_all
  rw [h2]
  exact (Blk.made w #[.int .i64 p.a.do_, .int .i64 p.a.f, .int .i64 p.a.g, .int .i64 p.a.n, .string (enc p.a.s), .slice p.ka p.kn p.kcap] 32).cell hj
theorem row_act {w wr : World} {base n cap : Nat} {xa : Option Addr} {l : List AH} {k : Nat} {x : AH} (h : w.ownsRow base 32 6 (.slice xa n cap) l.length (av l)) (hx : l[k]? = some x) (hb : Below w.heap.size w wr) :
    ∃ g, xa = some ⟨g, 0, none⟩ ∧ g < wr.heap.size ∧ ∀ i u, (acells x.a x.ka x.kn x.kcap)[i]? = some u → wr.cell? ⟨g, k * 6 + i, none⟩ = some u := by
  obtain ⟨_, ⟨_, h⟩ | ⟨g, cap', cur, hv, _, hg, _, _, _, htk⟩⟩ := own_below h hb
  · have := (List.getElem?_eq_some_iff.1 hx).1
    omega
  · injection hv with hv _ _
    refine ⟨g, hv, (Array.getElem?_eq_some_iff.1 hg).1, fun i u hu => ?_⟩
    have h2 := av_at l k i x u hx hu
    rw [← htk] at h2
    have h3 : cur.toList[k * 6 + i]? = some u := by
      rw [List.getElem?_take] at h2
      split at h2
      · exact h2
      · cases h2
    simp [World.cell?, hg]
    simpa using h3
def keep (l : List AH) (f : Int) (k : Nat) : List AH := (l.take k).filter fun x => x.a.f != f
theorem keep_yes {l : List AH} {f : Int} {k : Nat} {x : AH} (h : l[k]? = some x) (hf : x.a.f ≠ f) : keep l f (k + 1) = keep l f k ++ [x] := by
  unfold keep
  rw [List.take_add_one, h, List.filter_append]
  simp [hf]
theorem keep_no {l : List AH} {f : Int} {k : Nat} {x : AH} (h : l[k]? = some x) (hf : x.a.f = f) : keep l f (k + 1) = keep l f k := by
  unfold keep
  rw [List.take_add_one, h, List.filter_append]
  simp [hf]
theorem keep_le (l : List AH) (f : Int) (k : Nat) : (keep l f k).length ≤ k := Nat.le_trans (List.length_filter_le _ _) (by rw [List.length_take]; omega)
set_option maxHeartbeats 4000000 in
set_option maxRecDepth 100000 in
theorem without_any (l : List AH) (n : Nat) (hn : l.length = n) (hN : n ≤ 1000000) (f : Int) (w : World) (xa : Option Addr) (base cap : Nat) (h : w.ownsRow base 32 6 (.slice xa n cap) l.length (av l)) :
    Calls Try.prog 25 #[.slice xa n cap, .int .i64 f] w fun e w' => ∃ v', e = .returned v' ∧ Below w.heap.size w w' ∧ w'.ownsRow w.heap.size 32 6 v' (keep l f n).length (av (keep l f n)) := by
  have H := Lib.hid h
  have HN := Lib.hid hn
  clear h hn
  go_enter Try.func25, Try.ntmps25
  go_wp2
  go_loopw [5, 6] (fun x5 x6 wr => ∃ k : Nat, x6 = .int .i64 k ∧ k ≤ n ∧ Hid (wr.ownsRow w.heap.size 32 6 x5 (keep l f k).length (av (keep l f k))) ∧ Hid (Below w.heap.size w wr)) (fun _ x6 _ => n - (intOf x6).toNat)
  case atStart => exact ⟨0, rfl, Nat.zero_le _, ⟨rfl, .inl ⟨rfl, rfl⟩⟩, Below.refl _ _⟩
  case round =>
    obtain ⟨k, rfl, hk, hO, hB⟩ := hrel
    by_cases hkl : k < n
    · obtain ⟨x, hx⟩ : ∃ x, l[k]? = some x := ⟨_, List.getElem?_eq_getElem (by rw [HN.out]; exact hkl)⟩
      obtain ⟨g, rfl, hgl, hcs⟩ : ∃ g, xa = some ⟨g, 0, none⟩ ∧ g < wr.heap.size ∧ ∀ i u, (acells x.a x.ka x.kn x.kcap)[i]? = some u → wr.cell? ⟨g, k * 6 + i, none⟩ = some u := row_act H.out hx hB.out
      obtain ⟨d0, d1, d2, d3, d4, d5⟩ := acells_at hcs
      obtain ⟨pa, pn, pc, rfl⟩ := own_slice hO.out
      clear hcs
      by_cases hf : x.a.f = f
      · have HE := Lib.hid (keep_no hx hf)
        have b1 : (x.a.f != f) = false := by simpa using hf
        clear hx
        go_wp2
        go_roundw
        case rel => exact ⟨k + 1, by go_num, by omega, by rw [HE.out]; exact hO.out, hB⟩
        case measure => simp [intOf]; omega
      · have HE := Lib.hid (keep_yes hx hf)
        have b1 : (x.a.f != f) = true := by simpa using hf
        have HOW := Lib.hid (fun o : Obj => own_below hO.out (below_new wr o))
        have HBW := Lib.hid (fun o : Obj => below_to hB.out (Nat.le_refl _) (below_new wr o))
        have hkk : (keep l f k).length ≤ 1000000 := Nat.le_trans (keep_le l f k) (by omega)
        have hsz : w.heap.size ≤ wr.heap.size + 1 := by have := hB.out.size; omega
        clear hx
        go_wp2_with (at_builtin; refine wpList_app_act rfl (.tmp 20) (.tmp 25) rfl w.heap.size rfl (HOW.out _) ⟨wr.heap.size, 0, none⟩ 1 x rfl (new_act wr x) hkk (by rw [alloc_size]; exact hsz) ?_; intro v1 w1 ho1 hg1 _; have HO1 := Lib.hid ho1; have HB1 := Lib.hid (below_grown (HBW.out _) (Nat.le_refl _) hg1 (own_from hO.out)); clear ho1 hg1)
        go_roundw
        case rel => exact ⟨k + 1, by go_num, by omega, by rw [HE.out]; exact HO1.out, HB1.out⟩
        case measure => simp [intOf]; omega
    · obtain rfl : k = n := by omega
      go_wp2
      go_ret
      exact ⟨_, rfl, hB.out, hO.out⟩
end Go.Proofs.Ytbpodclodflgfaa
