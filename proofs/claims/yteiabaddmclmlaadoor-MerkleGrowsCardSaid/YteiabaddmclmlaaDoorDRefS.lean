/-
  A converted row of bytes, none of them frozen.
  append onto a row of bytes that a conversion made (or that an append made anew).
  The reference's Sum, out of its block.
-/
import Derived.Test.YteiabaddmclmlaaDoorDKeysP
import Derived.Lib.ConvBytes
import Derived.Test.YteiabaddmclmlaaDoorDKeeps
import Derived.ArgAppend
namespace Go.Proofs.YteiabaddmclmlaaDoor
open Go Go.RowKit Go.Shelf
/-- Bytes in block g, none of them frozen. -/
structure Cl (w : World) (g : Nat) (l : List UInt8) : Prop where
  cell : ∀ j, j < l.length → w.cell? ⟨g, j, none⟩ = some (.int .u8 ((l.getD j 0).toNat : Int))
  free : ∀ j, j < l.length → w.frozen? ⟨g, j, none⟩ = false
theorem Cl.drew {w : World} {g : Nat} {l : List UInt8} (h : Cl w g l) : Cl w.drew g l := ⟨h.cell, h.free⟩
theorem Cl.set {w : World} {g k : Nat} {l : List UInt8} (h : Cl w g l) (hk : k < l.length) (x : UInt8) : Cl (w.setCell ⟨g, k, none⟩ (.int .u8 (x.toNat : Int))) g (l.set k x) := by
  refine ⟨fun j hj => ?_, fun j hj => by rw [World.frozen?_setCell]; exact h.free j (by simpa using hj)⟩
  rw [List.length_set] at hj
  by_cases hjk : j = k
  · subst hjk
    rw [World.cell?_setCell_same _ _ _ (h.cell j hj)]
    simp [hk]
  · rw [World.cell?_setCell_other _ _ _ _ (by intro e; injection e with _ e2; exact hjk e2.symm), h.cell j hj]
    simp only [List.getD_eq_getElem?_getD]
    rw [List.getElem?_set_ne (fun e => hjk e.symm)]
theorem Cl.conv {w : World} {g n cap : Nat} {l : List UInt8} (h : Cl w g l) (hn : l.length = n) :
    (convert 43 9 (.slice (some ⟨g, 0, none⟩) n cap)).run Tryd.prog w = .ok (.string ⟨l.toArray⟩) w := by
  subst hn
  exact run_convert_bytes_back (P := Tryd.prog) w 43 9 5 ⟨g, 0, none⟩ cap l Tryd.underlying43 Tryd.underlying5 Tryd.underlying9 (fun j hj => by
    rw [add_plain0, h.cell j hj]
    simp [hj])
theorem bytes_of (s : ByteArray) (w : World) : ∃ (C : Nat) (W1 : World), (convert 9 43 (.string s)).run Tryd.prog w = .ok (.slice (some ⟨w.heap.size, 0, none⟩) s.size C) W1 ∧ Cl W1 w.heap.size s.data.toList ∧ Below w.heap.size w W1 := by
  refine ⟨_, _, Lib.run_convert_string_bytes (P := Tryd.prog) w 9 43 5 s Tryd.underlying9 Tryd.underlying43 Tryd.underlying5, ⟨fun j hj => Lib.bytesWorld_cell w _ s j (by rw [Lib.size_eq]; exact hj), fun j hj => ?_⟩, ?_⟩
  · have hj' : j < s.size := by rw [Lib.size_eq]; exact hj
    have hsz : (Lib.bytesCells w 5 s).size ≥ s.size := by
      have : s.size = s.data.size := rfl
      simp [Lib.bytesCells]
    simp [World.frozen?, Lib.bytesWorld_at_new]
    try omega
  · refine ⟨rfl, rfl, rfl, by rw [Lib.bytesWorld_size]; omega, fun k hk => Lib.bytesWorld_at_old w _ s k hk⟩
end Go.Proofs.YteiabaddmclmlaaDoor
namespace Go.Proofs.YteiabaddmclmlaaDoor
open Go Go.RowKit Go.Shelf
/-- The call's own row in block g: n bytes are known, cap cells can be written. -/
structure BR (w : World) (base g cap : Nat) (l : List UInt8) : Prop where
  lo : base ≤ g
  lt : g < w.heap.size
  le : l.length ≤ cap
  mx : cap ≤ maxLen
  cell : ∀ j, j < l.length → w.cell? ⟨g, j, none⟩ = some (.int .u8 ((l.getD j 0).toNat : Int))
  room : ∀ j, j < cap → (w.cell? ⟨g, j, none⟩).isSome = true
  free : ∀ j, j < cap → w.frozen? ⟨g, j, none⟩ = false
def BRV (w : World) (base : Nat) (v : Value) (l : List UInt8) : Prop := ∃ g cap, v = .slice (some ⟨g, 0, none⟩) l.length cap ∧ BR w base g cap l
theorem BR.below {w w' : World} {base g cap : Nat} {l : List UInt8} (h : BR w base g cap l) (hb : Below w.heap.size w w') : BR w' base g cap l :=
  ⟨h.lo, Nat.lt_of_lt_of_le h.lt hb.size, h.le, h.mx, fun j hj => (hb.cell (p := ⟨g, j, none⟩) h.lt).trans (h.cell j hj), fun j hj => by rw [hb.cell (p := ⟨g, j, none⟩) h.lt]; exact h.room j hj,
    fun j hj => (World.frozen?_of_block (hb.block g h.lt)).trans (h.free j hj)⟩
theorem BRV.below {w w' : World} {base : Nat} {v : Value} {l : List UInt8} (h : BRV w base v l) (hb : Below w.heap.size w w') : BRV w' base v l := by
  obtain ⟨g, cap, hv, h⟩ := h
  exact ⟨g, cap, hv, h.below hb⟩
theorem BRV.alloc {w : World} {base : Nat} {v : Value} {l : List UInt8} (h : BRV w base v l) (o : Obj) : BRV (w.alloc o) base v l := h.below (below_alloc (Below.refl _ _) (Nat.le_refl _) o)
theorem BRV.drew {w : World} {base : Nat} {v : Value} {l : List UInt8} (h : BRV w base v l) : BRV w.drew base v l := h.below (below_drew (Below.refl _ _))
theorem BRV.drews {w : World} {base : Nat} {v : Value} {l : List UInt8} (h : BRV w base v l) (n : Nat) : BRV (w.drewN n) base v l := h.below (below_drewN (Below.refl _ _) n)
theorem BRV.allocDrew {w : World} {base : Nat} {v : Value} {l : List UInt8} (h : BRV w base v l) (o : Obj) : BRV (w.alloc o).drew base v l := (h.alloc o).drew
theorem BR.of_owned {w : World} {base : Nat} {v : Value} {l : List UInt8} {n : Nat} (h : w.ownsRow base 5 1 v n (bv l)) (hl : l.length = n) (hn : 0 < n) : BRV w base v l := by
  subst hl
  rcases h.2 with ⟨_, h0⟩ | ⟨g, cap, cur, rfl, hb, hg, hnc, hcm, hcs, ht⟩
  · omega
  · have hlt := (Array.getElem?_eq_some_iff.1 hg).1
    refine ⟨g, cap, rfl, hb, hlt, hnc, hcm, fun j hj => ?_, fun j hj => ?_, fun j hj => ?_⟩
    · have := h.cells (g := g) rfl j _ (bv_at hj)
      rw [add_plain0] at this
      exact this
    · have : j < cur.size := by omega
      simp [World.cell?, hg, this]
    · simp [World.frozen?, hg]
theorem Below.setCells {B g : Nat} (hg : B ≤ g) : ∀ (vs : List Value) (o : Nat) (a w : World), Below B a w → Below B a (w.setCells g o vs)
  | [], _, _, _, h => h
  | v :: r, o, a, _, h => Below.setCells hg r (o + 1) a _ (h.setCell (p := ⟨g, o, none⟩) hg v)
theorem setCells_size (g : Nat) : ∀ (vs : List Value) (o : Nat) (w : World), (w.setCells g o vs).heap.size = w.heap.size
  | [], _, _ => rfl
  | v :: r, o, w => by
    rw [World.setCells, setCells_size g r (o + 1)]
    simp [World.setCell]
theorem run_append_BR {w : World} {base : Nat} {v : Value} {l : List UInt8} (h : BRV w base v l) (ty : TypeId) (a : Addr) (m c : Nat) (news : List UInt8) (hl : news.length = m)
    (hnews : ∀ j u, (bv news)[j]? = some u → w.cell? (a.add j) = some u) (_hm : 0 < m) (hbig : l.length + m ≤ 1000000000) (hbase : base ≤ w.heap.size) :
    ∃ v' w', (Builtin.append_ #[43, 43] ty #[v, .slice (some a) m c]).run Tryd.prog w = .ok v' w' ∧ BRV w' base v' (l ++ news) ∧ Below base w w' := by
  obtain ⟨i0, hi, hz0, hz1, hz2⟩ := info_parts infoU
  obtain ⟨g, cap, rfl, hr⟩ := h
  have hnl : (bv news).length = m := by rw [bv_length, hl]
  by_cases hroom : l.length + m ≤ cap
  · have run := run_append_room_cells (P := Tryd.prog) w 43 ty 5 i0 Tryd.underlying43 hi g 0 l.length cap a m c (bv news) (by rw [hnl, hz1]; omega) hnews (bv_cells _) hroom
      (fun j hj => hr.room _ (by rw [hz1]; omega)) (fun j hj => hr.free _ (by rw [hz1]; omega))
    rw [hz1, Nat.zero_add, Nat.mul_one] at run
    have hin := World.cell?_setCells_in g (bv news) l.length w (fun j hj => hr.room _ (by omega))
    have hout := fun j (hj : j < l.length ∨ l.length + (bv news).length ≤ j) => World.cell?_setCells_out g (bv news) l.length w ⟨g, j, none⟩ (fun _ _ => hj)
    refine ⟨_, _, run, ⟨g, cap, by rw [List.length_append, hl], hr.lo, ?_, by rw [List.length_append, hl]; exact hroom, hr.mx, fun j hj => ?_, fun j hj => ?_, fun j hj => ?_⟩, Below.setCells hr.lo _ _ _ _ (Below.refl _ _)⟩
    · rw [setCells_size]; exact hr.lt
    · rw [List.length_append, hl] at hj
      by_cases hjl : j < l.length
      · rw [hout j (.inl hjl), hr.cell j hjl]
        simp only [List.getD_eq_getElem?_getD]
        rw [List.getElem?_append_left hjl]
      · have := hin (j - l.length) (by omega)
        rw [show l.length + (j - l.length) = j by omega] at this
        rw [this]
        simp only [List.getD_eq_getElem?_getD]
        rw [List.getElem?_append_right (by omega)]
        have hb := bv_at (l := news) (j := j - l.length) (by omega)
        rw [List.getElem?_eq_getElem (by omega)] at hb
        simpa [List.getD_eq_getElem?_getD] using hb
    · by_cases hjo : j < l.length ∨ l.length + (bv news).length ≤ j
      · rw [hout j hjo]; exact hr.room j hj
      · have := hin (j - l.length) (by omega)
        rw [show l.length + (j - l.length) = j by omega] at this
        rw [this]; rfl
    · rw [World.frozen?_setCells]; exact hr.free j hj
  · obtain ⟨v', w', hrun, hown, hgrow⟩ := run_append_arg_grows (P := Tryd.prog) w 43 ty 5 i0 (.int .u8 0) 1 1 Tryd.underlying43 hi hz0 hz1 hz2 rfl (by omega) ⟨g, 0, none⟩ l.length cap (bv l) (by rw [bv_length]; omega)
      (fun j u hj => by
        have hjl : j < l.length := by have := (List.getElem?_eq_some_iff.1 hj).1; simpa [bv] using this
        rw [add_plain0, hr.cell j hjl, ← hj, bv_at hjl]) a m c (bv news) (by rw [hnl]; omega) hnews (by omega) (by unfold maxLen; omega) (by omega)
    have e : bv l ++ bv news = bv (l ++ news) := by simp [bv]
    rw [e] at hown
    obtain ⟨g', cap', hv', h'⟩ := BR.of_owned hown (by rw [List.length_append, hl]) (by omega)
    exact ⟨v', w', hrun, ⟨g', cap', hv', Nat.le_trans hbase h'.lo, h'.lt, h'.le, h'.mx, h'.cell, h'.room, h'.free⟩, below_none (Below.refl _ _) hgrow hbase⟩
section
variable {w : World} {ops : Array Oper} {o : Oper} {a : Act} {Q : Exit → Act → World → Prop}
theorem wp_append_BR {K : Act → World → Prop} (s x : Operand) (ho : o.op = .call { callee := .builtin .append, args := #[s, x], argTypes := #[43, 43] })
    (base : Nat) (v : Value) (L : List UInt8) (hs : a.eval s = v) (hown : BRV w base v L) (ad : Addr) (m c : Nat) (news : List UInt8) (hx : a.eval x = .slice (some ad) m c) (hl : news.length = m)
    (hnews : ∀ j u, (bv news)[j]? = some u → w.cell? (ad.add j) = some u) (hm : 0 < m) (hbig : L.length + m ≤ 1000000000) (hbase : base ≤ w.heap.size)
    (h : ∀ v' w', BRV w' base v' (L ++ news) → Below base w w' → K (a.put o.dst v') w') : o.wp Tryd.prog a w K Q := by
  obtain ⟨v', w', hr, h2, h3⟩ := run_append_BR hown o.type ad m c news hl hnews hm hbig hbase
  unfold Oper.wp execOp
  simp only [ho, resolve, invoke, builtin, Sem.run_bind, Sem.run_pure, Result.andThen_ok, List.map_toArray, List.map_cons, List.map_nil, hs, hx, hr]
  exact h v' w' h2 h3
theorem step_append_BR {K : Act → World → Prop} {E : Prop} (hgd : o.guard = none) (s x : Operand) (ho : o.op = .call { callee := .builtin .append, args := #[s, x], argTypes := #[43, 43] })
    (base : Nat) (v : Value) (L : List UInt8) (hs : a.eval s = v) (hown : BRV w base v L) (ad : Addr) (m c : Nat) (news : List UInt8) (hx : a.eval x = .slice (some ad) m c) (hl : news.length = m)
    (hnews : ∀ j u, (bv news)[j]? = some u → w.cell? (ad.add j) = some u) (hm : 0 < m) (hbig : L.length + m ≤ 1000000000) (hbase : base ≤ w.heap.size)
    (h : ∀ v' w', BRV w' base v' (L ++ news) → Below base w w' → K (a.put o.dst v') w') : if Region.wanted o (yielded ops a.tmps) = true then Oper.wp Tryd.prog o a w K Q else E := by
  have hw : Region.wanted o (yielded ops a.tmps) = true := by simp [Region.wanted, hgd]
  rw [if_pos hw]
  exact wp_append_BR s x ho base v L hs hown ad m c news hx hl hnews hm hbig hbase h
theorem wpList_append_BR {rest : List Oper} (hgd : o.guard = none) (s x : Operand) (ho : o.op = .call { callee := .builtin .append, args := #[s, x], argTypes := #[43, 43] })
    (base : Nat) (v : Value) (L : List UInt8) (hs : a.eval s = v) (hown : BRV w base v L) (ad : Addr) (m c : Nat) (news : List UInt8) (hx : a.eval x = .slice (some ad) m c) (hl : news.length = m)
    (hnews : ∀ j u, (bv news)[j]? = some u → w.cell? (ad.add j) = some u) (hm : 0 < m) (hbig : L.length + m ≤ 1000000000) (hbase : base ≤ w.heap.size)
    (h : ∀ v' w', BRV w' base v' (L ++ news) → Below base w w' → wpList Tryd.prog ops Q rest (a.put o.dst v') w') : wpList Tryd.prog ops Q (o :: rest) a w :=
  wpList_plain hgd fun _ hK => wp_append_BR s x ho base v L hs hown ad m c news hx hl hnews hm hbig hbase fun v' w' h2 h3 => hK _ _ (h v' w' h2 h3)
end
/-- The converted string's bytes, in a row of the call's own. -/
theorem bytes_row (s : ByteArray) (hs : s.size ≤ 100000000) (w : World) : ∃ (C : Nat) (W1 : World), (convert 9 43 (.string s)).run Tryd.prog w = .ok (.slice (some ⟨w.heap.size, 0, none⟩) s.size C) W1 ∧ BR W1 w.heap.size w.heap.size C s.data.toList ∧ Below w.heap.size w W1 := by
  have hz := Lib.size_eq s
  have hge := grownCap_ge w s.size 0 5
  have hcs : (Lib.bytesCells w 5 s).size = grownCap w s.size 0 5 := by
    have h2 : s.size = s.data.size := rfl
    simp [Lib.bytesCells]
    omega
  refine ⟨_, _, Lib.run_convert_string_bytes (P := Tryd.prog) w 9 43 5 s Tryd.underlying9 Tryd.underlying43 Tryd.underlying5,
    ⟨Nat.le_refl _, by rw [Lib.bytesWorld_size]; omega, by rw [← hz]; exact hge, grownCap_le_maxLen w s.size 0 5 (by unfold maxLen; omega), fun j hj => Lib.bytesWorld_cell w _ s j (by rw [hz]; exact hj), fun j hj => ?_, fun j hj => ?_⟩,
    rfl, rfl, rfl, by rw [Lib.bytesWorld_size]; omega, fun k hk => Lib.bytesWorld_at_old w _ s k hk⟩
  · have : j < (Lib.bytesCells w 5 s).size := by omega
    simp [World.cell?, Lib.bytesWorld_at_new, this]
  · simp [World.frozen?, Lib.bytesWorld_at_new]
    try omega
end Go.Proofs.YteiabaddmclmlaaDoor
namespace Go.Proofs.YteiabaddmclmlaaDoor
open Go Go.RowKit Go.Shelf
/-- What the reference's block returns. -/
def RBlock : Prop := ∀ (s : Dg.St) (m : List UInt8) (at_ : Nat) (_ : at_ + 64 ≤ m.length) (_ : m.length ≤ 200000000) (gs cs gb n cb : Nat) (_ : n = m.length) (w : World) (_ : IR w gs s.list) (_ : ∀ j, j < m.length → w.cell? ⟨gb, j, none⟩ = some (.int .u8 ((m.getD j 0).toNat : Int))) (_ : gb < w.heap.size),
    Calls Tryd.prog 55 #[.slice (some ⟨gs, 0, none⟩) 8 cs, .slice (some ⟨gb, 0, none⟩) n cb, .int .i64 at_] w fun e w' => ∃ v, e = .returned v ∧ IOwn w' w.heap.size v (Dg.proc s ((m.drop at_).take 64)).list ∧ Below w.heap.size w w'
theorem and255 (n : Nat) (h : n < 9223372036854775808) : bits .and .i64 (n : Int) 255 = ((n % 256 : Nat) : Int) := by
  have h1 : (BitVec.ofInt 64 (n : Int)).toNat = n := by rw [BitVec.ofInt_natCast, BitVec.toNat_ofNat]; exact Nat.mod_eq_of_lt (by omega)
  have h2 : (BitVec.ofInt 64 255).toNat = 255 := by decide
  show IntKind.i64.wrap ((BitVec.ofInt 64 (n : Int) &&& BitVec.ofInt 64 255).toNat : Int) = _
  rw [BitVec.toNat_and, h1, h2, show n &&& 255 = n % 2 ^ 8 from Nat.and_two_pow_sub_one_eq_mod n 8, IntWalk.i64_in _ (by omega)]
theorem and255u (n : Nat) (h : n < 9223372036854775808) : bits .and .i64 (n : Int) 255 = ((UInt8.ofNat n).toNat : Int) := by
  rw [and255 n h, UInt8.toNat_ofNat']
theorem be64_at (N k : Nat) (hk : k < 8) : ((Dg.be64 N).getD k 0).toNat = N / 2 ^ (8 * (7 - k)) % 256 := by
  rcases k with _ | _ | _ | _ | _ | _ | _ | _ | k
  all_goals first | omega | (simp [Dg.be64, Dg.be32]; try omega)
theorem take_snocD {l : List UInt8} {k : Nat} (hk : k < l.length) : l.take (k + 1) = l.take k ++ [l.getD k 0] := by
  rw [List.take_succ_eq_append_getElem hk]
  simp [List.getD_eq_getElem?_getD, List.getElem?_eq_getElem hk]
set_option maxHeartbeats 8000000 in
set_option maxRecDepth 100000 in
theorem rsum_of (RB : RBlock) (s : ByteArray) (hs : s.size ≤ 100000000) (w : World) :
    Calls Tryd.prog 16 #[.string s] w fun e w' => e = .returned (.string ⟨(Dg.sha s.data.toList).toArray⟩) ∧ Below w.heap.size w w' := by
  obtain ⟨l, hl⟩ : ∃ l, s.data.toList = l := ⟨_, rfl⟩
  have hll : l.length = s.size := by rw [← hl]; exact (Lib.size_eq s).symm
  obtain ⟨w0, hw0⟩ : ∃ x, w.alloc (.cells #[.int .i64 1779033703, .int .i64 3144134277, .int .i64 1013904242, .int .i64 2773480762, .int .i64 1359893119, .int .i64 2600822924, .int .i64 528734635, .int .i64 1541459225] 3) = x := ⟨_, rfl⟩
  have hI0 : IR w0 w.heap.size Dg.H0.list := by rw [← hw0]; exact IR.made w Dg.H0.list 3
  have hB0 : Below w.heap.size w w0 := by rw [← hw0]; exact below_alloc (Below.refl _ _) (Nat.le_refl _) _
  have hlt0 : w.heap.size < w0.heap.size := by rw [← hw0, alloc_size]; omega
  obtain ⟨C, W1, hcv, hbr, hbw⟩ := bytes_row s hs w0
  have HI1 := Lib.hid (hI0.below hbw)
  have HB1 := Lib.hid (hB0.trans (hbw.mono hB0.size))
  rw [hl] at hbr
  have HR1 : Hid (BRV W1 w0.heap.size (.slice (some ⟨w0.heap.size, 0, none⟩) s.size C) l) := ⟨_, _, by rw [hll], hbr⟩
  have HS1 := Lib.hid hbw.size
  have HL := Lib.hid hll
  have HLS := Lib.hid hl
  have HL0 := Lib.hid hlt0
  clear hI0 hB0 hbr hbw hl hll hlt0
  go_enter Tryd.func16, Tryd.ntmps16
  obtain ⟨Z, hZ⟩ : ∃ Z, (119 - s.size % 64) % 64 = Z := ⟨_, rfl⟩
  go_wp2_with (at_builtin; go_must (refine wpList_append_BR (by rfl) _ _ (by rfl) w0.heap.size _ l (by rfl) (HR1.out.alloc _) ⟨W1.heap.size, 0, none⟩ 1 1 [128] (by rfl) rfl (cells_new W1 (bv [128]) _) (by decide) (by rw [HL.out]; omega) (Nat.le_trans HS1.out (by first | exact Nat.le_succ _ | simp)) ?_); intro v1 w2 hown hbel; have HR2 := Lib.hid hown; have HB2 := Lib.hid ((below_alloc (Below.refl W1.heap.size W1) (Nat.le_refl _) (.cells (bv [128]).toArray 5)).mono HS1.out |>.trans hbel); clear hown hbel)
  go_loopw [4] (fun v wr => ∃ (z g n cap : Nat), v = .slice (some ⟨g, 0, none⟩) n cap ∧ n = s.size + 1 + z ∧ z ≤ Z ∧ Hid (BRV wr w0.heap.size (.slice (some ⟨g, 0, none⟩) n cap) (l ++ 128 :: List.replicate z 0)) ∧ Hid (Below w0.heap.size W1 wr)) (fun v _ => Z + s.size + 1 - (match v with | .slice _ n _ => n | _ => 0))
  case atStart =>
    obtain ⟨g, cap, hv, hB⟩ := HR2.out
    rw [List.length_append, HL.out] at hv
    subst hv
    exact ⟨0, g, _, cap, rfl, rfl, Nat.zero_le _, HR2.out, HB2.out⟩
  case round =>
    obtain ⟨z, g, n, cap, rfl, hn, hz, hr, hb⟩ := hrel
    have HZ := Lib.hid hZ
    have hnb : n ≤ 200000000 := by omega
    by_cases hlt : z < Z
    · have hc : ¬ ((n : Int) % 64 = 56) := by omega
      have hlen : (l ++ 128 :: List.replicate z 0).length = n := by rw [List.length_append, HL.out]; simp; omega
      have hrep : l ++ 128 :: List.replicate (z + 1) 0 = (l ++ 128 :: List.replicate z 0) ++ [0] := by rw [List.replicate_succ']; simp
      obtain ⟨M, hM⟩ : ∃ M, l ++ 128 :: List.replicate z 0 = M := ⟨_, rfl⟩
      rw [hM] at hr hrep hlen
      have HN := Lib.hid (show ∀ P : List UInt8 → Prop, P (M ++ [0]) → P (l ++ 128 :: List.replicate (z + 1) 0) from fun P h => by rw [hrep]; exact h)
      have hlt1 : Hid (M.length = n) := hlen
      have Hn := Lib.hid hn
      clear hM hrep hlen hZ hn
      go_wp2_with (at_builtin; go_must (refine wpList_append_BR (by rfl) _ _ (by rfl) w0.heap.size _ M (by rfl) (hr.out.alloc _) ⟨wr.heap.size, 0, none⟩ 1 1 [0] (by rfl) rfl (cells_new wr (bv [0]) _) (by decide) (by rw [hlt1.out]; omega) (Nat.le_trans (Nat.le_trans HS1.out hb.out.size) (by first | exact Nat.le_succ _ | simp)) ?_); intro v2 w3 hown hbel; have HR3 := Lib.hid (HN.out (fun t => BRV w3 w0.heap.size v2 t) hown); have HB3 := Lib.hid ((hb.out.trans ((below_alloc (Below.refl wr.heap.size wr) (Nat.le_refl _) (.cells (bv [0]).toArray 5)).mono (Nat.le_trans HS1.out hb.out.size))).trans hbel); have HV := Lib.hid hown; clear hown hbel)
      obtain ⟨g3, cap3, hv3, _⟩ := HV.out
      rw [List.length_append, hlt1.out] at hv3
      subst hv3
      exact ⟨⟨z + 1, g3, n + 1, cap3, rfl, by rw [Hn.out]; omega, hlt, HR3.out, HB3.out⟩, by show _ - (n + 1) < _ - n; have := Hn.out; omega⟩
    · have hzZ : z = Z := by omega
      rw [hzZ] at hn hr
      have hc : (n : Int) % 64 = 56 := by omega
      obtain ⟨P, hP⟩ : ∃ P, l ++ 128 :: List.replicate Z 0 = P := ⟨_, rfl⟩
      have hPl : P.length = n := by rw [← hP, List.length_append, HL.out]; simp; omega
      rw [hP] at hr
      have HP := Lib.hid hP
      have HPl := Lib.hid hPl
      have Hn := Lib.hid hn
      obtain ⟨N, hN⟩ : ∃ N, 8 * s.size = N := ⟨_, rfl⟩
      have HN := Lib.hid hN
      have e1 : (8 : Int) * (s.size : Int) = (N : Int) := by omega
      have e2 : IntKind.i64.wrap ((8 : Int) * (s.size : Int)) = (N : Int) := by rw [IntWalk.i64_in _ (by omega)]; omega
      have e3 : IntKind.i64.wrap (N : Int) = (N : Int) := IntWalk.i64_in _ (by omega)
      have hNb : N ≤ 800000000 := by omega
      obtain ⟨wz, rfl⟩ : ∃ x, x = wr := ⟨wr, rfl⟩
      clear hZ hn hP hPl hN hzZ
      go_wp2_with fail
      clear hc e1 e2
      go_loopw [4, 6] (fun v i wr => ∃ (k g m cap : Nat) (x : Int), v = .slice (some ⟨g, 0, none⟩) m cap ∧ i = .int .i64 x ∧ x = 7 - (k : Int) ∧ m = n + k ∧ k ≤ 8 ∧ Hid (BRV wr w0.heap.size (.slice (some ⟨g, 0, none⟩) m cap) (P ++ (Dg.be64 N).take k)) ∧ Hid (Below w0.heap.size W1 wr)) (fun _ i _ => (intOf i + 1).toNat)
      case atStart => exact ⟨0, g, n, cap, 7, rfl, rfl, rfl, rfl, by omega, by rw [List.take_zero, List.append_nil]; exact hr, hb⟩
      case round =>
        clear hr hb
        obtain ⟨k, g, m, cap, x, rfl, rfl, hx, hm, hk, hr, hb⟩ := hrel
        by_cases hlt : k < 8
        · have hge : x ≥ 0 := by omega
          obtain ⟨j, hj⟩ : ∃ j : Nat, x = (j : Int) := ⟨x.toNat, by omega⟩
          subst hj
          obtain ⟨e, he⟩ : ∃ e, 8 * j = e := ⟨_, rfl⟩
          have f1 : (8 : Int) * (j : Int) = (e : Int) := by omega
          have f2 : IntKind.i64.wrap ((8 : Int) * (j : Int)) = (e : Int) := by rw [IntWalk.i64_in _ (by omega)]; omega
          have f3 : IntKind.i64.wrap (e : Int) = (e : Int) := IntWalk.i64_in _ (by omega)
          have f5 : (e : Int) < 64 := by omega
          have hy := be64_at N k hlt
          have hyN := take_snocD (l := Dg.be64 N) (k := k) (by rw [Dg.be64_length]; exact hlt)
          have he2 : 8 * (7 - k) = e := by omega
          rw [he2] at hy
          obtain ⟨y, hyy⟩ : ∃ y, (Dg.be64 N).getD k 0 = y := ⟨_, rfl⟩
          rw [hyy] at hy hyN
          obtain ⟨q, hq⟩ : ∃ q, N / 2 ^ e = q := ⟨_, rfl⟩
          rw [hq] at hy
          have hqi : (N : Int) / 2 ^ e = (q : Int) := by rw [← hq]; simp
          have hqb : q ≤ N := by rw [← hq]; exact Nat.div_le_self _ _
          have g1 := and255 q (by omega)
          rw [← hy] at g1
          have hyl := UInt8.toNat_lt y
          have hMl : (P ++ (Dg.be64 N).take k).length = m := by rw [List.length_append, HPl.out, List.length_take, Dg.be64_length]; omega
          have hrep : P ++ (Dg.be64 N).take (k + 1) = (P ++ (Dg.be64 N).take k) ++ [y] := by rw [hyN, List.append_assoc]
          obtain ⟨M, hM⟩ : ∃ M, P ++ (Dg.be64 N).take k = M := ⟨_, rfl⟩
          rw [hM] at hr hrep hMl
          have HM := Lib.hid (show ∀ R : List UInt8 → Prop, R (M ++ [y]) → R (P ++ (Dg.be64 N).take (k + 1)) from fun R h => by rw [hrep]; exact h)
          have hlt1 : Hid (M.length = m) := hMl
          have Hm := Lib.hid (show m = n + k ∧ (j : Int) = 7 - (k : Int) from ⟨hm, hx⟩)
          have hmb : m ≤ 200000008 := by omega
          clear he he2 hy hyN hyy hq hqb hM hMl hrep hm hx
          go_wp2_with (at_builtin; go_must (refine wpList_append_BR (by rfl) _ _ (by rfl) w0.heap.size _ M (by rfl) (hr.out.alloc _) ⟨wr.heap.size, 0, none⟩ 1 1 [y] (by rfl) rfl (cells_new wr (bv [y]) _) (by decide) (by rw [hlt1.out]; omega) (Nat.le_trans (Nat.le_trans HS1.out hb.out.size) (by first | exact Nat.le_succ _ | simp)) ?_); intro v2 w3 hown hbel; have HR3 := Lib.hid (HM.out (fun t => BRV w3 w0.heap.size v2 t) hown); have HB3 := Lib.hid ((hb.out.trans ((below_alloc (Below.refl wr.heap.size wr) (Nat.le_refl _) (.cells (bv [y]).toArray 5)).mono (Nat.le_trans HS1.out hb.out.size))).trans hbel); have HV := Lib.hid hown; clear hown hbel)
          obtain ⟨g3, cap3, hv3, _⟩ := HV.out
          rw [List.length_append, hlt1.out] at hv3
          subst hv3
          have hj1 : 0 ≤ (j : Int) := by omega
          go_roundw
          case rel => exact ⟨k + 1, g3, m + 1, cap3, (j : Int) - 1, rfl, rfl, by have := Hm.out; omega, by have := Hm.out; omega, hlt, HR3.out, HB3.out⟩
          case measure => simp [intOf]
        · have hk8 : k = 8 := by omega
          have hx1 : x = -1 := by omega
          have hM : P ++ (Dg.be64 N).take k = Dg.pad l := by
            rw [hk8, List.take_of_length_le (by rw [Dg.be64_length]; omega), ← HP.out]
            unfold Dg.pad
            rw [HL.out, HZ.out, HN.out, List.append_assoc, List.cons_append]
          rw [hM] at hr
          obtain ⟨D, hD⟩ : ∃ D, Dg.pad l = D := ⟨_, rfl⟩
          rw [hD] at hr
          have hDl : D.length = m := by rw [← hD, ← hM, List.length_append, HPl.out, List.length_take, Dg.be64_length]; omega
          have hm64 : m % 64 = 0 := by have := Hn.out; have := HZ.out; omega
          have hmb : m ≤ 200000000 := by have := Hn.out; have := HZ.out; omega
          have HD := Lib.hid hD
          have HDl := Lib.hid hDl
          have hneg : ¬ x ≥ 0 := by omega
          obtain ⟨gd, capd, hvd, hBR⟩ := hr.out
          have hvd' : g = gd := by injection hvd with h1 _ _; injection h1 with h1; injection h1
          subst hvd'
          have Hcell := Lib.hid hBR.cell
          have Hglt := Lib.hid hBR.lt
          have HI2 := Lib.hid (show IR wr w.heap.size Dg.H0.list from ⟨fun j hj => (hb.out.cell (p := ⟨w.heap.size, j, none⟩) HL0.out).trans (HI1.out.cell j hj), Nat.lt_of_lt_of_le HI1.out.lt hb.out.size⟩)
          have HB2' : Hid (Below w.heap.size w wr) := HB1.out.trans (hb.out.mono (Nat.le_of_lt HL0.out))
          obtain ⟨wz, rfl⟩ : ∃ x, x = wr := ⟨wr, rfl⟩
          clear hvd hBR hM hD hDl hk8 hm hx hr hb HR1 HR2 HB2 HI1 HB1
          go_wp2_with fail
          go_loopw [3, 7] (fun v i wr => ∃ (q gs cs a : Nat), v = .slice (some ⟨gs, 0, none⟩) 8 cs ∧ i = .int .i64 (a : Int) ∧ a = 64 * q ∧ a ≤ m ∧ Hid (IR wr gs (Dg.absorb q Dg.H0 D).list) ∧ Hid (Below wz.heap.size wz wr)) (fun _ i _ => m - (intOf i).toNat)
          case atStart => exact ⟨0, w.heap.size, 8, 0, rfl, rfl, rfl, Nat.zero_le _, HI2, Below.refl _ _⟩
          case round =>
            clear HI2
            obtain ⟨q, gs, cs, a, rfl, rfl, ha, ham, hI, hb⟩ := hrel
            by_cases hlt : a < m
            · have hai : (a : Int) < (m : Int) := by omega
              have ha64 : a + 64 ≤ m := by omega
              have hw1 : IntKind.i64.wrap ((a : Int) + 64) = (a : Int) + 64 := IntWalk.i64_in _ (by omega)
              have CB := Lib.hid (RB (Dg.absorb q Dg.H0 D) D a (by rw [HDl.out]; exact ha64) (by rw [HDl.out]; exact hmb) gs cs g m cap HDl.out.symm wr hI.out (fun j hj => (hb.out.cell (p := ⟨g, j, none⟩) Hglt.out).trans (Hcell.out j hj)) (Nat.lt_of_lt_of_le Hglt.out hb.out.size))
              have Ha := Lib.hid ha
              clear ha
              go_wp2_with fail
              refine CB.out.mono ?_
              rintro _ w5 ⟨v5, rfl, hO, hB5⟩
              obtain ⟨g5, cap5, hv5, _, hI5⟩ := hO.row (by simp [Dg.St.list])
              have hv5 : v5 = .slice (some ⟨g5, 0, none⟩) 8 cap5 := hv5
              subst hv5
              have HI5 : Hid (IR w5 g5 (Dg.absorb (q + 1) Dg.H0 D).list) := by
                show IR w5 g5 _
                rw [Dg.absorb_snoc, ← Ha.out]; exact hI5
              have HB5 := Lib.hid (hb.out.trans (hB5.mono hb.out.size))
              clear hO hI5 hB5 CB hI hb
              go_wp2_with fail
              go_roundw
              case rel => exact ⟨q + 1, g5, cap5, a + 64, rfl, by first | rfl | go_num, by rw [Ha.out]; omega, ha64, HI5, HB5⟩
              case measure => simp [intOf]; omega
            · have hai : ¬ (a : Int) < (m : Int) := by omega
              have hqm : q = D.length / 64 := by rw [HDl.out]; omega
              rw [hqm, ← HD.out] at hI
              obtain ⟨S, hS⟩ : ∃ S, Dg.absorb ((Dg.pad l).length / 64) Dg.H0 (Dg.pad l) = S := ⟨_, rfl⟩
              rw [hS] at hI
              have HSh := Lib.hid (show Dg.sha l = outAt S 8 from by unfold Dg.sha; rw [hS]; rfl)
              have Hst := Lib.hid hI.out.cell
              have Hslt := Lib.hid hI.out.lt
              have HBf : Hid (Below w.heap.size w wr) := HB2'.out.trans (hb.out.mono HB2'.out.size)
              obtain ⟨wy, rfl⟩ : ∃ x, x = wr := ⟨wr, rfl⟩
              clear hqm hS hI hb HB2' ha
              go_wp2_with fail
              go_loopw [8, 9] (fun v i wr => ∃ (k : Nat) (vv : Value), vv = v ∧ i = .int .i64 (k : Int) ∧ k ≤ 8 ∧ Hid (BytesOf wr wy.heap.size vv (outAt S k)) ∧ Hid (Below wy.heap.size wy wr)) (fun _ i _ => 8 - (intOf i).toNat)
              case atStart => exact ⟨0, _, rfl, rfl, by omega, World.ownsRow_nil _ _ _ _, Below.refl _ _⟩
              case round =>
                obtain ⟨k, v, rfl, rfl, hk, hI, hb⟩ := hrel
                by_cases hlt : k < 8
                · have hki : (k : Int) < 8 := by omega
                  have hx := (hb.out.cell (p := ⟨gs, k, none⟩) Hslt.out).trans (Hst.out k (by show k < 8; exact hlt))
                  have hN := outAt_next S k hlt
                  have hLl := outAt_len S k hk
                  obtain ⟨X, hX⟩ : ∃ X, S.list.getD k 0 = X := ⟨_, rfl⟩
                  rw [hX] at hx hN
                  obtain ⟨L, hL⟩ : ∃ L, outAt S k = L := ⟨_, rfl⟩
                  rw [hL] at hN hI hLl
                  have hXl := X.isLt
                  obtain ⟨q0, hq0⟩ : ∃ q, X.toNat / 16777216 = q := ⟨_, rfl⟩
                  obtain ⟨q1, hq1⟩ : ∃ q, X.toNat / 65536 = q := ⟨_, rfl⟩
                  obtain ⟨q2, hq2⟩ : ∃ q, X.toNat / 256 = q := ⟨_, rfl⟩
                  obtain ⟨q3, hq3⟩ : ∃ q, X.toNat = q := ⟨_, rfl⟩
                  have hbe : Dg.be32 X = [UInt8.ofNat q0, UInt8.ofNat q1, UInt8.ofNat q2, UInt8.ofNat q3] := by rw [← hq0, ← hq1, ← hq2, ← hq3]; rfl
                  have i0 : (X.toNat : Int) / 16777216 = (q0 : Int) := by omega
                  have i1 : (X.toNat : Int) / 65536 = (q1 : Int) := by omega
                  have i2 : (X.toNat : Int) / 256 = (q2 : Int) := by omega
                  have g0 := and255u q0 (by omega)
                  have g1 := and255u q1 (by omega)
                  have g2 := and255u q2 (by omega)
                  have g3 := and255u q3 (by omega)
                  rw [← hq3] at g3
                  obtain ⟨b0, hb0⟩ : ∃ b, UInt8.ofNat q0 = b := ⟨_, rfl⟩
                  obtain ⟨b1, hb1⟩ : ∃ b, UInt8.ofNat q1 = b := ⟨_, rfl⟩
                  obtain ⟨b2, hb2⟩ : ∃ b, UInt8.ofNat q2 = b := ⟨_, rfl⟩
                  obtain ⟨b3, hb3⟩ : ∃ b, UInt8.ofNat q3 = b := ⟨_, rfl⟩
                  rw [hq3] at g3
                  rw [hb0] at g0 hbe
                  rw [hb1] at g1 hbe
                  rw [hb2] at g2 hbe
                  rw [hb3] at g3 hbe
                  rw [← hq3] at g3
                  rw [hbe] at hN
                  have l0 := UInt8.toNat_lt b0
                  have l1 := UInt8.toNat_lt b1
                  have l2 := UInt8.toNat_lt b2
                  have l3 := UInt8.toNat_lt b3
                  have HN1 := Lib.hid (show ∀ R : List UInt8 → Prop, R (L ++ [b0, b1, b2, b3]) → R (outAt S (k + 1)) from fun R h => by rw [hN]; exact h)
                  have hLb : L.length ≤ 32 := by omega
                  clear hN hLl hX hL hq0 hq1 hq2 hq3 hbe hb0 hb1 hb2 hb3
                  go_wp2_with (at_builtin; go_must (refine wpList_append_bytes (by rfl) _ _ (by rfl) wy.heap.size _ L (by rfl) (hI.out.alloc _) ⟨wr.heap.size, 0, none⟩ 4 4 [b0, b1, b2, b3] (by rfl) rfl (cells_new wr (bv [b0, b1, b2, b3]) _) (by omega) (Nat.le_trans hb.out.size (by first | exact Nat.le_succ _ | simp)) ?_); intro u1 w5 ho1 hg1; have HI1 := Lib.hid (HN1.out (fun t => BytesOf w5 wy.heap.size u1 t) ho1); have HB1 := Lib.hid (below_grown (below_alloc hb.out (Nat.le_refl _) _) (hI.out.alloc _) hg1 (Nat.le_refl _) (Nat.le_refl _)); clear ho1 hg1)
                  go_roundw
                  case rel => exact ⟨k + 1, u1, rfl, by first | rfl | go_num, by omega, HI1.out, HB1.out⟩
                  case measure => simp [intOf]; omega
                · have hki : ¬ (k : Int) < 8 := by omega
                  have hk8 : k = 8 := by omega
                  rw [hk8, ← HSh.out] at hI
                  have hcv := hI.out.back
                  have HBe := Lib.hid (HBf.out.trans (hb.out.mono HBf.out.size))
                  clear hk8 hI hb
                  go_wp2
                  go_ret
                  exact ⟨congrArg (fun t : List UInt8 => Ending.returned (.string ⟨t.toArray⟩)) (congrArg Dg.sha HLS.out.symm), HBe.out⟩
end Go.Proofs.YteiabaddmclmlaaDoor
