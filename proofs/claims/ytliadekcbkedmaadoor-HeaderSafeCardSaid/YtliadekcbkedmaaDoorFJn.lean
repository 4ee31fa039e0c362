/-
  header.joined.
-/
import Derived.Test.YtliadekcbkedmaaDoorFLn
namespace Go.Proofs.YtliadekcbkedmaaDoor
open Go Go.RowKit Go.Shelf
namespace Tx
theorem joinSp_len (ws : List (List UInt8)) (b : Nat) (h : ∀ x ∈ ws, x.length ≤ b) : (joinSp ws).length ≤ ws.length * (b + 1) := by
  have hr : ∀ r : List (List UInt8), (∀ x ∈ r, x.length ≤ b) → ((r.map (fun x => 32 :: x)).flatten).length ≤ r.length * (b + 1) := by
    intro r
    induction r with
    | nil => intro _; simp
    | cons x r ih =>
      intro hx
      have h1 := hx x (by simp)
      have h2 := ih (fun y hy => hx y (by simp [hy]))
      simp only [List.map_cons, List.flatten_cons, List.length_append, List.length_cons, Nat.add_mul, Nat.one_mul] at h2 ⊢
      omega
  cases ws with
  | nil => simp [joinSp]
  | cons x r =>
    have h1 := h x (by simp)
    have h2 := hr r (fun y hy => h y (by simp [hy]))
    simp only [joinSp, List.length_append, List.length_cons, Nat.add_mul, Nat.one_mul] at h2 ⊢
    omega
theorem joinSp_snoc (r : List (List UInt8)) (x : List UInt8) (h : r ≠ []) : joinSp (r ++ [x]) = joinSp r ++ 32 :: x := by
  cases r with
  | nil => exact absurd rfl h
  | cons a t => simp [joinSp]
end Tx
theorem join_sp (X : List (List UInt8)) : Lib.join X [32] = Tx.joinSp X := by
  cases X with
  | nil => rfl
  | cons x r => rw [Lib.join_cons]; rfl
theorem join_any {w : World} {xa : Option Addr} {b cap : Nat} {L : List (List UInt8)} (h : Lv w xa b 0 cap L) (h0 : 0 < L.length) (hL : L.length ≤ 1000000) (hx : ∀ x ∈ L, x.length ≤ 40000000) :
    Calls Tryd.prog 72 #[.slice xa L.length cap, .string ⟨#[32]⟩] w fun e w' => e = .returned (.string ⟨(Tx.joinSp L).toArray⟩) ∧ Below w.heap.size w w' := by
  have hxa := h.at_ h0
  subst hxa
  have hm : (L.map fun l => (⟨l.toArray⟩ : ByteArray)).map (·.data.toList) = L := by
    rw [List.map_map]
    conv => rhs; rw [← List.map_id L]
    apply List.map_congr_left
    intro x _; simp
  have := Any.strings_Join Tryd.lays156 Tryd.Builder_X156 b 0 cap (L.map fun l => (⟨l.toArray⟩ : ByteArray)) ⟨#[32]⟩ w (fun j x hj => by
    rw [List.getElem?_map] at hj
    cases hl : L[j]? with
    | none => rw [hl] at hj; cases hj
    | some l =>
      rw [hl] at hj
      cases hj
      have hjl : j < L.length := (List.getElem?_eq_some_iff.1 hl).1
      have := h.cell j hjl
      rw [List.getD_eq_getElem?_getD, hl] at this
      exact this) (h.lt h0) (by rw [List.length_map]; omega) (by rw [List.length_map]; exact h.le) (by
      rw [hm, show (⟨#[32]⟩ : ByteArray).data.toList = [32] from rfl, join_sp]
      have h1 := Tx.joinSp_len L 40000000 hx
      have h2 : L.length * (40000000 + 1) ≤ 1000000 * 40000001 := Nat.mul_le_mul_right _ hL
      omega)
  rw [hm, show (⟨#[32]⟩ : ByteArray).data.toList = [32] from rfl, join_sp, List.length_map] at this
  exact this

set_option maxHeartbeats 1000000 in
theorem join_none (xa : Option Addr) (cap : Nat) (w : World) : Calls Tryd.prog 72 #[.slice xa 0 cap, .string ⟨#[32]⟩] w fun e w' => e = .returned (.string ⟨#[]⟩) ∧ w = w' := by
  go_enter Tryd.func72, Tryd.ntmps72
  go_wp2
  go_ret
  exact ⟨rfl, rfl⟩
theorem join_to {w : World} {xa : Option Addr} {b cap n : Nat} {L : List (List UInt8)} (h : Lv w xa b 0 cap L) (hn : L.length = n) (hL : n ≤ 1000000) (hx : ∀ x ∈ L, x.length ≤ 40000000) :
    Calls Tryd.prog 72 #[.slice xa n cap, .string ⟨#[32]⟩] w fun e w' => e = .returned (.string ⟨(Tx.joinSp L).toArray⟩) ∧ Below w.heap.size w w' := by
  subst hn
  by_cases h0 : 0 < L.length
  · exact join_any h h0 hL hx
  · have : L = [] := List.eq_nil_of_length_eq_zero (by omega)
    subst this
    refine (join_none xa cap w).mono ?_
    rintro e w' ⟨rfl, rfl⟩
    exact ⟨rfl, Below.refl _ _⟩
/-- A slice of slices that reads as these lists. -/
structure PR (w : World) (pa : Option Addr) (pb : Nat) (Ls : List (List (List UInt8))) : Prop where
  at_ : 0 < Ls.length → pa = some ⟨pb, 0, none⟩
  lt : 0 < Ls.length → pb < w.heap.size
  c : ∀ j L, Ls[j]? = some L → ∃ xa b cap, w.cell? ⟨pb, j, none⟩ = some (.slice xa L.length cap) ∧ Lv w xa b 0 cap L
theorem PR.below {w w' : World} {pa : Option Addr} {pb : Nat} {Ls : List (List (List UInt8))} (h : PR w pa pb Ls) (hb : Below w.heap.size w w') : PR w' pa pb Ls :=
  ⟨h.at_, fun hp => Nat.lt_of_lt_of_le (h.lt hp) hb.size, fun j L hj => by
    obtain ⟨xa, b, cap, h1, h2⟩ := h.c j L hj
    exact ⟨xa, b, cap, (hb.cell (p := ⟨pb, j, none⟩) (h.lt (by have := (List.getElem?_eq_some_iff.1 hj).1; omega))).trans h1, h2.below hb⟩⟩
namespace Hd
/-- The fields so far. -/
def joiF (NM : List (List UInt8)) (Ls : List (List (List UInt8))) (k : Nat) : List Fd := (NM.zip (Ls.map Tx.joinSp)).take k
theorem joiF_succ {NM : List (List UInt8)} {Ls : List (List (List UInt8))} {k : Nat} {n : List UInt8} {L : List (List UInt8)} (h : NM[k]? = some n) (h2 : Ls[k]? = some L) : joiF NM Ls (k + 1) = joiF NM Ls k ++ [(n, Tx.joinSp L)] := by
  unfold joiF
  rw [List.take_add_one]
  congr 1
  have : (NM.zip (Ls.map Tx.joinSp))[k]? = some (n, Tx.joinSp L) := by
    rw [List.getElem?_zip_eq_some]
    exact ⟨h, by rw [List.getElem?_map, h2]; rfl⟩
  rw [this]; rfl
end Hd
set_option maxHeartbeats 1000000 in
set_option maxRecDepth 100000 in
theorem joined_any (NM : List (List UInt8)) (Ls : List (List (List UInt8))) (n ncap pcap nb pb : Nat) (na pa : Option Addr) (w : World) (hN : Lv w na nb 0 ncap NM) (hP : PR w pa pb Ls) (hn : NM.length = n) (hl : Ls.length = n) (hn2 : n ≤ 1000)
    (hb : ∀ L ∈ Ls, L.length ≤ 30000 ∧ ∀ x ∈ L, x.length ≤ 30000) :
    Calls Tryd.prog 50 #[.slice na n ncap, .slice pa n pcap] w fun e w' => ∃ a m c, e = .returned (.slice a m c) ∧ FOwn 35 w' w.heap.size (.slice a m c) (NM.zip (Ls.map Tx.joinSp)) ∧ Below w.heap.size w w' := by
  have hR : NM.zip (Ls.map Tx.joinSp) = Hd.joiF NM Ls n := by
    unfold Hd.joiF
    rw [List.take_of_length_le (by rw [List.length_zip, List.length_map]; omega)]
  rw [hR]
  have HN := Lib.hid hN
  have HP := Lib.hid hP
  have HNn := Lib.hid hn
  have HLn := Lib.hid hl
  have HB := Lib.hid hb
  clear hR hN hP hn hl hb
  go_enter Tryd.func50, Tryd.ntmps50
  go_wp2
  go_loopw [5, 6, 7, 10] (fun v _ _ i wr => ∃ k : Nat, i = .int .i64 k ∧ k ≤ n ∧ Hid (FOwn 35 wr w.heap.size v (Hd.joiF NM Ls k)) ∧ Hid (Below w.heap.size w wr)) (fun _ _ _ i _ => n - (intOf i).toNat)
  case atStart => exact ⟨0, rfl, Nat.zero_le _, FOwn.nil _ _ _, Below.refl _ _⟩
  case round =>
    obtain ⟨k, rfl, hk, hO, hB⟩ := hrel
    obtain ⟨va, vc, hv⟩ := own_slice hO.out
    subst hv
    by_cases hlt : k < n
    · obtain ⟨x, hx⟩ : ∃ x, NM[k]? = some x := ⟨_, List.getElem?_eq_getElem (by rw [HNn.out]; exact hlt)⟩
      obtain ⟨L, hL⟩ : ∃ L, Ls[k]? = some L := ⟨_, List.getElem?_eq_getElem (by rw [HLn.out]; exact hlt)⟩
      obtain rfl := HN.out.at_ (by rw [HNn.out]; omega)
      obtain rfl := HP.out.at_ (by rw [HLn.out]; omega)
      have c0 := cell_lv (HN.out.below hB.out) hx
      obtain ⟨xa, xb, xc, c1, hLv⟩ := (HP.out.below hB.out).c k L hL
      have hbl := HB.out L (List.mem_of_getElem? hL)
      obtain ⟨m, hm⟩ : ∃ m, L.length = m := ⟨_, rfl⟩
      rw [hm] at c1
      have HJ := Lib.hid (join_to hLv hm (by omega) (fun y hy => by have := hbl.2 y hy; omega))
      have HS := Lib.hid (Hd.joiF_succ hx hL)
      obtain ⟨J, hJ⟩ : ∃ J, Tx.joinSp L = J := ⟨_, rfl⟩
      rw [hJ] at HJ HS
      have HF : Hid ((Hd.joiF NM Ls k).length ≤ 1000000) := Lib.hid (by unfold Hd.joiF; rw [List.length_take]; omega)
      clear hx hL hLv hbl hm hJ
      go_wp2_with (first
        | (go_at_call 72; with_reducible refine HJ.out.mono ?_; rintro e w2 ⟨rfl, hb2⟩; have HO2 := Lib.hid (hO.out.new hb2); have HB2 := Lib.hid (below_to hB.out (Nat.le_refl _) hb2); clear hb2)
        | (at_builtin; refine wpList_app_new (w := w2) (w0 := w) Tryd.underlying33 infoF rfl _ _ rfl (x, J) HO2.out HB2.out (Nat.le_refl _) HF.out rfl rfl ?_; intro pa3 pn3 pc3 w3 hO3 hB3))
      go_roundw
      case rel => exact ⟨k + 1, by go_num, by omega, by rw [HS.out]; exact hO3.out, hB3.out⟩
      case measure => simp [intOf]; omega
    · obtain rfl : k = n := by omega
      go_wp2
      go_ret
      exact ⟨_, _, _, rfl, hO.out, hB.out⟩
end Go.Proofs.YtliadekcbkedmaaDoor
