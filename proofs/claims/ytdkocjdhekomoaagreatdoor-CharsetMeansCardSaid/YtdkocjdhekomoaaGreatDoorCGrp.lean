/-
  codec.writeGroup; slices.Chunk.
-/
import Derived.Test.YtdkocjdhekomoaaGreatDoorCChunk
import Derived.Test.YtdkocjdhekomoaaGreatDoorCBx
import Derived.Laws.BitsAllLaws
import Derived.Laws.CopyRow
import Derived.Deep.WholeRow
namespace Go.Proofs.YtdkocjdhekomoaaGreatDoor
open Go Go.RowKit Go.Shelf
set_option maxRecDepth 100000 in
theorem infoB : (Tryz.prog.info? 5).map (·.size) = some 1 := by kernel_rfl
/-- These bytes lie there. -/
def ByAt (w : World) (g off : Nat) (x : List UInt8) : Prop := ∀ (j : Nat) (c : UInt8), x[j]? = some c → w.cell? ⟨g, off + j, none⟩ = some (.int .u8 c.toNat)
set_option maxRecDepth 100000 in
theorem ByAt.alloc {w : World} {g off : Nat} {x : List UInt8} (h : ByAt w g off x) (hg : g < w.heap.size) (o : Obj) : ByAt (w.alloc o) g off x := fun j c hj => ((Below.refl w.heap.size w).alloc (Nat.le_refl _) o).cell (p := ⟨g, off + j, none⟩) hg |>.trans (h j c hj)
set_option maxRecDepth 100000 in
theorem copy3 (w : World) (g off cap : Nat) (x : List UInt8) (h3 : x.length ≤ 3) (hx : ByAt w g off x) (hg : g < w.heap.size) (ty : TypeId) :
    (Builtin.copy_ #[32, 32] ty #[.slice (some ⟨w.heap.size, 0, none⟩) 3 3, .slice (some ⟨g, off, none⟩) x.length cap]).run Tryz.prog (w.alloc (.cells #[.int .u8 0, .int .u8 0, .int .u8 0] 106)) =
      .ok (goInt x.length) (w.alloc (.cells #[.int .u8 (x.getD 0 0).toNat, .int .u8 (x.getD 1 0).toNat, .int .u8 (x.getD 2 0).toNat] 106)) := by
  have hmin : Nat.min x.length 3 = x.length := Nat.min_eq_left h3
  have := run_copy_row (P := Tryz.prog) (w.alloc (.cells #[.int .u8 0, .int .u8 0, .int .u8 0] 106)) 32 32 ty 5 w.heap.size 0 3 3 ⟨g, off, none⟩ x.length cap #[.int .u8 0, .int .u8 0, .int .u8 0] 106
    (Lib.byteCells x) Tryz.underlying32 infoB (World.alloc_heap_new w _) (by rw [Lib.byteCells_length, hmin]) (fun j v hj => by
      obtain ⟨c, hc, rfl⟩ : ∃ c, x[j]? = some c ∧ Value.int .u8 (c.toNat : Int) = v := by
        unfold Lib.byteCells at hj
        rw [List.getElem?_map] at hj
        simpa using hj
      rw [show (⟨g, off, none⟩ : Addr).add j = ⟨g, off + j, none⟩ from by simp [Addr.add]]
      exact hx.alloc hg _ j c hc) (by rw [Lib.byteCells_length]; show 0 + x.length ≤ 3; omega) (fun v hv => by
      obtain ⟨c, _, rfl⟩ := List.mem_map.1 hv
      rfl)
  rw [this, Lib.byteCells_length, World.setRow_alloc_new]
  congr 3
  match x, h3 with
  | [], _ => rfl
  | [a], _ => rfl
  | [a, b], _ => rfl
  | [a, b, c], _ => rfl

namespace Cd
set_option maxRecDepth 100000 in
theorem num3_lt (x : List UInt8) : num3 x < 16777216 := by
  have h0 := UInt8.toNat_lt (x.getD 0 0)
  have h1 := UInt8.toNat_lt (x.getD 1 0)
  have h2 := UInt8.toNat_lt (x.getD 2 0)
  unfold num3; omega
set_option maxRecDepth 100000 in
theorem dig64_mod {a b : Nat} (h : a % 64 = b % 64) : dig64 a = dig64 b := by unfold dig64; rw [h]
end Cd
set_option maxRecDepth 100000 in
theorem or_bytes (a b c : UInt8) : bits .or .u32 (bits .or .u32 ((a.toNat : Int) * 65536) ((b.toNat : Int) * 256)) (c.toNat : Int) = ((a.toNat * 65536 + b.toNat * 256 + c.toNat : Nat) : Int) := by
  have ha := UInt8.toNat_lt a
  have hb := UInt8.toNat_lt b
  have hc := UInt8.toNat_lt c
  have oradd : ∀ (a b i : Nat), b < 2 ^ i → (2 ^ i * a) ||| b = 2 ^ i * a + b := fun a b i h => (Nat.two_pow_add_eq_or_of_lt h a).symm
  have e1 : ((a.toNat : Int) * 65536) = ((256 * (256 * a.toNat) : Nat) : Int) := by omega
  have e2 : ((b.toNat : Int) * 256) = ((256 * b.toNat : Nat) : Int) := by omega
  have e3 : 256 * (256 * a.toNat) ||| 256 * b.toNat = 256 * (256 * a.toNat + b.toNat) := by
    rw [show 256 * (256 * a.toNat) = 2 ^ 16 * a.toNat by omega, oradd a.toNat (256 * b.toNat) 16 (by omega)]; omega
  rw [e1, e2, u32_or_nat _ _ (by omega) (by omega), e3, u32_or_nat _ _ (by omega) (by omega), oradd _ c.toNat 8 (by omega)]
  omega
set_option maxRecDepth 100000 in
theorem and63 (n : Nat) (h : n < 4294967296) : bits .and .u32 (n : Int) 63 = ((n % 64 : Nat) : Int) := by
  have := u32_and_nat n 63 h (by omega)
  rw [show ((63 : Nat) : Int) = 63 from rfl] at this
  rw [this, show n &&& 63 = n % 2 ^ 6 from Nat.and_two_pow_sub_one_eq_mod n 6]
set_option maxRecDepth 100000 in
/-- A digit of base64 is looked up. -/
theorem wpList_dig64 (w : World) {ops : Array Oper} {rest : List Oper} {o : Oper} {a : Act} {Q : Exit → Act → World → Prop}
    (hg : o.guard = none) (m x : Operand) (hop : o.op = Op.lookup 89 m x false) (b n : Nat) (q : Nat) (d : UInt8) (hd : Cd.dig64 q = d) (hq : q < 64)
    (hm : a.eval m = .map (some b)) (h : Tab b n (Cd.digF Cd.digs 64) w) (ki : Int) (hx : a.eval x = .int .u8 ki) (hki : ki = q)
    (hK : wpList Tryz.prog ops Q rest (a.put o.dst (.int .u8 d.toNat)) w) :
    wpList Tryz.prog ops Q (o :: rest) a w :=
  wpList_tab w hg m x hop b n _ (UInt8.ofNat q) hm h ki hx (by rw [hki]; simp; omega) (by
    subst hd
    have : Cd.dig64 q = ((Cd.digF Cd.digs 64) (UInt8.ofNat q)).getD 0 := by unfold Cd.dig64; rw [Nat.mod_eq_of_lt hq]
    rw [this] at hK
    exact hK)

set_option maxRecDepth 100000 in
theorem BldX.alloc {B b : Nat} {l : List UInt8} {w : World} (h : BldX B b l w) (o : Obj) : BldX B b l (w.alloc o) :=
  BldX.own B b (fun (_ : Unit) => l) () w _ none h (World.grownBy_alloc w o none) (fun r e => by cases e)

set_option maxHeartbeats 2000000 in
set_option maxRecDepth 100000 in
theorem writeGroup_any (B b : Nat) (l : List UInt8) (g off cap : Nat) (x : List UInt8) (t n : Nat) (w : World) (h : BldX B b l w) (hT : Tab t n (Cd.digF Cd.digs 64) w) (htB : t < B) (htb : t ≠ b) (hlen : l.length ≤ 900000000) (hBw : B ≤ w.heap.size)
    (_h1 : 1 ≤ x.length) (h3 : x.length ≤ 3) (hx : ByAt w g off x) (hg : g < w.heap.size) :
    Calls Tryz.prog 102 #[.pointer (some ⟨b, 0, none⟩), .slice (some ⟨g, off, none⟩) x.length cap, .map (some t)] w fun e w' =>
      e = .returned (.tuple #[]) ∧ BldX B b (l ++ Cd.grp x) w' ∧ Fr B b w w' := by
  have hcp := copy3 w g off cap x h3 hx hg
  have hor := or_bytes (x.getD 0 0) (x.getD 1 0) (x.getD 2 0)
  have hNl := Cd.num3_lt x
  have hNe : Hid (Cd.num3 x = (x.getD 0 0).toNat * 65536 + (x.getD 1 0).toNat * 256 + (x.getD 2 0).toNat) := rfl
  obtain ⟨p, hp⟩ : ∃ p, x.getD 0 0 = p := ⟨_, rfl⟩
  obtain ⟨q, hq⟩ : ∃ p, x.getD 1 0 = p := ⟨_, rfl⟩
  obtain ⟨r, hr⟩ : ∃ p, x.getD 2 0 = p := ⟨_, rfl⟩
  rw [hp, hq, hr] at hcp hor hNe
  rw [← hNe.out] at hor
  obtain ⟨N, hN⟩ : ∃ N, Cd.num3 x = N := ⟨_, rfl⟩
  rw [hN] at hor hNl
  have pl := UInt8.toNat_lt p
  have ql := UInt8.toNat_lt q
  have rl := UInt8.toNat_lt r
  obtain ⟨m, hm⟩ : ∃ m, x.length = m := ⟨_, rfl⟩
  have HG : Hid (∀ i, Cd.chr4 x i = if i ≤ m then Cd.dig64 (N / 2 ^ (18 - 6 * i)) else 61) := by intro i; unfold Cd.chr4; rw [hm, hN]
  rw [hm] at _h1 h3 hcp ⊢
  clear hp hq hr hN hm hNe hx
  go_enter Tryz.func102, Tryz.ntmps102
  go_wp2
  have HB0 := Lib.hid ((Fr.refl B b w).alloc (.cells #[.int .u8 p.toNat, .int .u8 q.toNat, .int .u8 r.toNat] 106) hBw)
  have HBl := Lib.hid (h.alloc (.cells #[.int .u8 p.toNat, .int .u8 q.toNat, .int .u8 r.toNat] 106))
  go_loopw [7, 25] (fun v iv wr => ∃ (i V : Nat) (out : List UInt8), iv = .int .i64 i ∧ i ≤ 4 ∧ v = .int .u32 V ∧ V < 4294967296 ∧ Hid (V = N * 64 ^ i % 4294967296) ∧ out.length = i ∧ Hid (out = (Cd.grp x).take i) ∧ BldX B b (l ++ out) wr ∧ Fr B b w wr) (fun _ iv _ => 4 - (intOf iv).toNat)
  case atStart => exact ⟨0, N, [], rfl, by omega, rfl, by omega, (by show N = N * 64 ^ 0 % _; omega), rfl, rfl, by rw [List.append_nil]; exact HBl.out, HB0.out⟩
  case round =>
    obtain ⟨i, V, out, rfl, hi, rfl, hVl, hV, hol, ho, hBl, hBe⟩ := hrel
    have hTr := hT.block (hBe.low t htB htb)
    have hsz := Nat.le_trans hBw hBe.size
    by_cases hlt : i < 4
    · have HO : Hid (out ++ [Cd.chr4 x i] = (Cd.grp x).take (i + 1)) := by
        show _ = _
        rw [ho.out]
        obtain rfl | rfl | rfl | rfl : i = 0 ∨ i = 1 ∨ i = 2 ∨ i = 3 := by omega
        all_goals rfl
      have HV : Hid (V * 64 % 4294967296 = N * 64 ^ (i + 1) % 4294967296) := by
        show _ = _
        rw [hV.out, Nat.pow_succ, ← Nat.mul_assoc, Nat.mul_mod, Nat.mod_mod, ← Nat.mul_mod]
      have hVi : (V : Int) * 64 % 4294967296 = ((V * 64 % 4294967296 : Nat) : Int) := by omega
      obtain ⟨V2, hV2⟩ : ∃ V2, V * 64 % 4294967296 = V2 := ⟨_, rfl⟩
      rw [hV2] at HV hVi
      have hV2l : V2 < 4294967296 := by omega
      have hq : V / 262144 % 64 = N / 2 ^ (18 - 6 * i) % 64 := by
        rw [hV.out]
        obtain rfl | rfl | rfl | rfl : i = 0 ∨ i = 1 ∨ i = 2 ∨ i = 3 := by omega
        all_goals (simp only [Nat.reduceMul, Nat.reduceSub, Nat.reducePow]; omega)
      have ha := and63 (V / 262144) (by omega)
      have hsh : (V : Int) / 262144 = ((V / 262144 : Nat) : Int) := by omega
      obtain ⟨u, hu⟩ : ∃ u, V / 262144 % 64 = u := ⟨_, rfl⟩
      rw [hu] at ha hq
      have ul : u < 64 := by omega
      obtain ⟨d, hd⟩ : ∃ d, Cd.dig64 u = d := ⟨_, rfl⟩
      have HD := Lib.hid hd
      rw [← hsh] at ha
      have hc4 := HG.out i
      rw [Cd.dig64_mod (show N / 2 ^ (18 - 6 * i) % 64 = u % 64 by omega), hd] at hc4
      have hol1 : out.length ≤ 4 := by omega
      have hol2 : ∀ c : UInt8, (out ++ [c]).length = i + 1 := by intro c; rw [List.length_append, hol]; rfl
      have HL := Lib.hid hol2
      clear hq hV2 hu hd hsh hV ho hol hol2
      by_cases him : i ≤ m
      · rw [if_pos him] at hc4
        rw [hc4] at HO
        clear hc4
        go_wp2_with (first
          | (at_lookup; refine wpList_dig64 _ rfl _ _ rfl t n u d HD.out ul rfl hTr _ rfl rfl ?_)
          | (go_at_call 103; refine (wbx_any B b _ d _ hBl (by rw [List.length_append]; omega) hsz).mono ?_; rintro e w3 ⟨rfl, hBl3, hB3⟩))
        go_roundw
        case rel => exact ⟨i + 1, V2, out ++ [d], by go_num, by omega, by rw [hVi], hV2l, HV.out, HL.out d, HO.out, by rw [← List.append_assoc]; exact hBl3, hBe.trans hB3⟩
        case measure => simp [intOf]; omega
      · rw [if_neg him] at hc4
        rw [hc4] at HO
        clear hc4
        go_wp2_with (first
          | (go_at_call 103; refine (wbx_any B b _ 61 _ hBl (by rw [List.length_append]; omega) hsz).mono ?_; rintro e w3 ⟨rfl, hBl3, hB3⟩))
        go_roundw
        case rel => exact ⟨i + 1, V2, out ++ [61], by go_num, by omega, by rw [hVi], hV2l, HV.out, HL.out 61, HO.out, by rw [← List.append_assoc]; exact hBl3, hBe.trans hB3⟩
        case measure => simp [intOf]; omega
    · have hi4 : i = 4 := by omega
      subst hi4
      have ho2 := ho.out
      clear ho
      go_wp2
      go_end0
      refine ⟨rfl, ?_, hBe⟩
      rw [show (Cd.grp x).take 4 = Cd.grp x from rfl] at ho2
      rw [← ho2]; exact hBl
end Go.Proofs.YtdkocjdhekomoaaGreatDoor
