/-
  SHA-256 as its last blocks; a copy of a string into an array.
  Sum is SHA-256.
-/
import Derived.Test.YteiabaddmclmlaaDoorDBytes
import Derived.Lib.BufferWrite
import Derived.Lib.IndexBytes
namespace Go.Proofs.YteiabaddmclmlaaDoor
open Go Go.RowKit Go.Shelf
namespace Dg
theorem absorb_snoc : ∀ (n : Nat) (s : St) (l : List UInt8), absorb (n + 1) s l = proc (absorb n s l) ((l.drop (64 * n)).take 64)
  | 0, s, l => by simp [absorb]
  | n + 1, s, l => by
    show absorb (n + 1) (proc s (l.take 64)) (l.drop 64) = proc (absorb n (proc s (l.take 64)) (l.drop 64)) _
    rw [absorb_snoc n, List.drop_drop, show 64 + 64 * n = 64 * (n + 1) from by omega]
theorem absorb_take (n : Nat) (s : St) (l : List UInt8) (h : 64 * n ≤ l.length) : absorb n s (l.take (64 * n)) = absorb n s l := by
  have := absorb_add n 0 s (l.take (64 * n)) (l.drop (64 * n)) (by simp; omega)
  rw [List.take_append_drop] at this
  exact this.symm
theorem sha_tail (l : List UInt8) (n q : Nat) (h : l.length = 64 * n + q) (hq : q < 64) :
    sha l = (absorb ((q + 72) / 64) (absorb n H0 l) (l.drop (64 * n) ++ 128 :: (List.replicate ((119 - q) % 64) 0 ++ be64 (8 * l.length)))).bytes := by
  have hp : pad l = l.take (64 * n) ++ (l.drop (64 * n) ++ 128 :: (List.replicate ((119 - q) % 64) 0 ++ be64 (8 * l.length))) := by
    unfold pad
    rw [← List.append_assoc, List.take_append_drop, show l.length % 64 = q from by omega]
  unfold sha
  rw [pad_length, show 64 * ((l.length + 72) / 64) / 64 = n + (q + 72) / 64 from by omega, hp, absorb_add n _ _ _ _ (by simp; omega), absorb_take n _ _ (by omega)]
theorem sha_short (l : List UInt8) (n q : Nat) (h : l.length = 64 * n + q) (hq : q < 56) :
    sha l = (proc (absorb n H0 l) ((l.drop (64 * n) ++ 128 :: List.replicate (55 - q) 0) ++ be64 (8 * l.length))).bytes := by
  rw [sha_tail l n q h (by omega), show (q + 72) / 64 = 1 from by omega, show (119 - q) % 64 = 55 - q from by omega]
  show (proc _ (List.take 64 _)).bytes = _
  rw [List.take_of_length_le (by simp [be64_length]; omega)]
  simp
theorem sha_long (l : List UInt8) (n q : Nat) (h : l.length = 64 * n + q) (hq : q < 64) (h56 : 56 ≤ q) :
    sha l = (proc (proc (absorb n H0 l) (l.drop (64 * n) ++ 128 :: List.replicate (63 - q) 0)) (List.replicate 56 0 ++ be64 (8 * l.length))).bytes := by
  rw [sha_tail l n q h hq, show (q + 72) / 64 = 2 from by omega, show (119 - q) % 64 = (63 - q) + 56 from by omega]
  have e : l.drop (64 * n) ++ 128 :: (List.replicate (63 - q + 56) 0 ++ be64 (8 * l.length)) = (l.drop (64 * n) ++ 128 :: List.replicate (63 - q) 0) ++ (List.replicate 56 0 ++ be64 (8 * l.length)) := by
    rw [← List.replicate_append_replicate]; simp
  rw [e]
  have hl : (l.drop (64 * n) ++ 128 :: List.replicate (63 - q) 0).length = 64 := by simp; omega
  obtain ⟨P, hP⟩ : ∃ P, l.drop (64 * n) ++ 128 :: List.replicate (63 - q) 0 = P := ⟨_, rfl⟩
  rw [hP] at hl ⊢
  show (proc (proc _ (List.take 64 _)) (List.take 64 (List.drop 64 _))).bytes = _
  rw [List.take_left' hl, List.drop_left' hl, List.take_of_length_le (by simp [be64_length])]
/-- The last block, its length written behind its first 56 bytes. -/
theorem len_block (c : List UInt8) (hc : c.length = 64) (n : Nat) : splice (splice c 56 (be32 (BitVec.ofNat 32 (n / 4294967296)))) 60 (be32 (BitVec.ofNat 32 n)) = c.take 56 ++ be64 n := by
  have h4 : ∀ x, (be32 x).length = 4 := fun x => rfl
  obtain ⟨a, ha⟩ : ∃ a, be32 (BitVec.ofNat 32 (n / 4294967296)) = a := ⟨_, rfl⟩
  obtain ⟨b, hb⟩ : ∃ b, be32 (BitVec.ofNat 32 n) = b := ⟨_, rfl⟩
  unfold be64
  rw [ha, hb]
  have la : a.length = 4 := by rw [← ha]; rfl
  have lb : b.length = 4 := by rw [← hb]; rfl
  unfold splice
  have lp : (c.take 56).length = 56 := by simp; omega
  rw [lb, la, ← List.append_assoc (c.take 56) a, List.take_left' (l₁ := c.take 56 ++ a) (by simp; omega), List.drop_of_length_le (by simp; omega), List.append_nil, List.append_assoc]
theorem short_take (r : List UInt8) (q : Nat) (hr : r.length = q) (hq : q < 56) : (r ++ 128 :: List.replicate (63 - q) 0).take 56 = r ++ 128 :: List.replicate (55 - q) 0 := by
  rw [List.take_append, List.take_of_length_le (by omega), hr]
  obtain ⟨m, hm⟩ : ∃ m, 56 - q = m + 1 := ⟨55 - q, by omega⟩
  rw [hm, List.take_succ_cons, List.take_replicate, show min m (63 - q) = 55 - q from by omega]
end Dg
theorem infoB : (Tryd.prog.info? 5).map (·.size) = some 1 := by kernel_rfl
theorem bv_eq (l : List UInt8) : Lib.byteCells l = bv l := rfl
theorem run_copy_any {w : World} {g : Nat} {t : TypeId} {cur : List Value} (ty : TypeId) (hg : Blk w g t cur) (cap : Nat) (s : ByteArray) :
    (Builtin.copy_ #[43, 9] ty #[.slice (some ⟨g, 0, none⟩) cur.length cap, .string s]).run Tryd.prog w =
      .ok (goInt (Nat.min s.size cur.length)) (w.setRow g (bv (s.data.toList.take cur.length) ++ cur.drop (Nat.min s.size cur.length)).toArray) := by
  obtain ⟨m, hm⟩ : ∃ m, Nat.min s.size cur.length = m := ⟨_, rfl⟩
  have hsz := Lib.size_eq s
  have hm1 : m ≤ cur.length := by rw [← hm]; exact Nat.min_le_right _ _
  have hm2 : m ≤ s.size := by rw [← hm]; exact Nat.min_le_left _ _
  have htk : List.take m (List.map (fun b : UInt8 => Value.int IntKind.u8 (b.toNat : Int)) s.data.toList) = bv (s.data.toList.take cur.length) := by
    have h1 : s.data.toList.take cur.length = s.data.toList.take m := by
      rcases Nat.le_total s.size cur.length with h | h
      · rw [List.take_of_length_le (by omega), List.take_of_length_le]
        rw [← hsz, ← hm]; simp [Nat.min_eq_left h]
      · have : m = cur.length := by rw [← hm]; exact Nat.min_eq_right h
        rw [this]
    rw [h1, ← List.map_take]
    rfl
  have hlen : (bv (s.data.toList.take cur.length)).length = m := by rw [← htk]; simp; omega
  have hone : ∀ v ∈ bv (s.data.toList.take cur.length), v.oneCell' = true := fun v hv => by
    obtain ⟨b, _, rfl⟩ := List.mem_map.1 hv
    rfl
  have hst := run_storeCells_at Tryd.prog g 0 t (bv (s.data.toList.take cur.length)) 0 cur.toArray w hg (by rw [hlen]; simpa using hm1) hone
  rw [hlen] at hst
  simp only [Nat.add_zero, Nat.zero_add] at hst
  cases hq : Tryd.prog.info? 5 with
  | none => have := infoB; rw [hq] at this; cases this
  | some i =>

    rw [hm]
    simp [Builtin.copy_, run_underlying (P := Tryd.prog) Tryd.underlying43, Builtin.lenOf, Builtin.firstCells, sizeOf, typeInfo, hq, hm]
    rw [htk, hst]
    simp [Result.andThen]
theorem wpList_copy_str {w : World} {ops : Array Oper} {rest : List Oper} {o : Oper} {a : Act} {Q : Exit → Act → World → Prop} (hgd : o.guard = none) (d x : Operand)
    (ho : o.op = .call { callee := .builtin .copy, args := #[d, x], argTypes := #[43, 9] }) (g N cap : Nat) (s : ByteArray) (hd : a.eval d = .slice (some ⟨g, 0, none⟩) N cap) (hs : a.eval x = .string s)
    (t : TypeId) (c : List UInt8) (hg : Blk w g t (bv c)) (hN : c.length = N)
    (h : ∀ w', Hid (Blk w' g t (bv (s.data.toList.take N ++ c.drop s.size))) → Hid (Gr g w w') → wpList Tryd.prog ops Q rest (a.put o.dst (goInt (Nat.min s.size N))) w') : wpList Tryd.prog ops Q (o :: rest) a w := by
  subst hN
  refine wpList_plain hgd fun K hK => ?_
  have hrun := run_copy_any o.type hg cap s
  rw [bv_length] at hrun
  unfold Oper.wp
  simp [execOp, ho, resolve, invoke, builtin, hd, hs, hrun, Result.andThen]
  refine hK _ _ (h _ ?_ ?_)
  · have e : bv (s.data.toList.take c.length ++ c.drop s.size) = bv (s.data.toList.take c.length) ++ (bv c).drop (Nat.min s.size c.length) := by
      unfold bv
      rw [List.map_append, ← List.map_drop]
      congr 2
      rcases Nat.le_total s.size c.length with h | h
      · rw [show Nat.min s.size c.length = s.size from Nat.min_eq_left h]
      · rw [show Nat.min s.size c.length = c.length from Nat.min_eq_right h, List.drop_of_length_le h, List.drop_of_length_le (Nat.le_refl _)]
    show Blk _ _ _ _
    rw [e]
    exact hg.setRow _
  · exact Gr.setRow (Gr.refl g w) _
end Go.Proofs.YteiabaddmclmlaaDoor
namespace Go.Proofs.YteiabaddmclmlaaDoor
open Go Go.RowKit Go.Shelf
theorem info64b : (Tryd.prog.info? 51).map (·.size) = some 64 := by kernel_rfl
theorem info8w : (Tryd.prog.info? 49).map (·.size) = some 8 := by kernel_rfl
theorem putWord_at (v : Int) (x : Dg.W32) (hv : v = (x.toNat : Int)) (g off n cap : Nat) (t : TypeId) (L : List Value) (w : World) (hn : 4 ≤ n) (hB : Blk w g t L) (hoff : off + 4 ≤ L.length) :
    Calls Tryd.prog 53 #[.slice (some ⟨g, off, none⟩) n cap, .int .u32 v] w fun e w' => e = .returned (.tuple #[]) ∧ Blk w' g t (splice L off (bv (Dg.be32 x))) ∧ Gr g w w' := by subst hv; exact putWord_any x g off n cap t L w hn hB hoff
theorem ext_end (r : ByteArray) (k : Nat) : (r.extract k r.size).data.toList = r.data.toList.drop k := Lib.extract_to_end r k
theorem bv_cells (l : List UInt8) : ∀ v ∈ bv l, v.oneCell' = true := fun v hv => by
  obtain ⟨b, _, rfl⟩ := List.mem_map.1 hv
  rfl
theorem last_copy (r : ByteArray) (hq : r.size < 64) {w : World} {g : Nat} {t : TypeId} (h : Blk w g t (bv (r.data.toList.take 64 ++ (List.replicate 64 (0 : UInt8)).drop r.size))) :
    w.cell? ⟨g, r.size, none⟩ = some (.int .u8 0) ∧ w.frozen? ⟨g, r.size, none⟩ = false ∧ Hid (Blk (w.setCell ⟨g, r.size, none⟩ (.int .u8 128)) g t (bv (r.data.toList ++ 128 :: List.replicate (63 - r.size) 0))) := by
  have hz := Lib.size_eq r
  obtain ⟨R, hR⟩ : ∃ R, r.data.toList = R := ⟨_, rfl⟩
  rw [hR] at h hz ⊢
  rw [hz] at h hq ⊢
  rw [List.take_of_length_le (by omega), List.drop_replicate] at h
  obtain ⟨m, hm⟩ : ∃ m, 64 - R.length = m + 1 := ⟨63 - R.length, by omega⟩
  rw [hm, List.replicate_succ] at h
  rw [show 63 - R.length = m from by omega]
  refine ⟨h.cell ?_, h.free _, ?_⟩
  · unfold bv
    rw [List.map_append, List.getElem?_append_right (by simp)]
    simp
  · refine (h.set R.length (.int .u8 128)).as ?_
    unfold bv
    rw [List.map_append, List.set_append_right _ _ (by simp)]
    simp
set_option maxHeartbeats 4000000 in
set_option maxRecDepth 100000 in
theorem sum_any (s : ByteArray) (hs : s.size ≤ 100000000) (w : World) (hE : Env w) :
    Calls Tryd.prog 15 #[.string s] w fun e w' => e = .returned (.string ⟨(Dg.sha s.data.toList).toArray⟩) ∧ Below w.heap.size w w' := by
  have HE := Lib.hid hE
  clear hE
  go_enter Tryd.func15, Tryd.ntmps15
  go_wp2_with fail
  obtain ⟨l, hl⟩ : ∃ l, s.data.toList = l := ⟨_, rfl⟩
  have hll : l.length = s.size := by rw [← hl]; exact (Lib.size_eq s).symm
  go_loopw [5] (fun v wr => ∃ (n : Nat) (r : ByteArray) (c : List UInt8), v = .string r ∧ 64 * n + r.size = s.size ∧ Hid (r.data.toList = l.drop (64 * n)) ∧ c.length = 64 ∧
      Hid (Blk wr w.heap.size 49 (wv (Dg.absorb n Dg.H0 l).list)) ∧ Hid (Blk wr (w.heap.size + 1) 51 (bv c)) ∧ Hid (Below w.heap.size w wr)) (fun v _ => match v with | .string r => r.size | _ => 0)
  case atStart =>
    refine ⟨0, s, List.replicate 64 0, rfl, by omega, hl, by simp, ?_, ?_, below_alloc (below_alloc (Below.refl _ _) (Nat.le_refl _) _) (Nat.le_refl _) _⟩
    · exact (Blk.made w (wv Dg.H0.list).toArray 49).below (below_alloc (Below.refl _ _) (Nat.le_refl _) _)
    · have := Blk.made (w.alloc (.cells (wv Dg.H0.list).toArray 49)) (bv (List.replicate 64 0)).toArray 51
      rw [alloc_size] at this
      exact this
  case round =>
    obtain ⟨n, r, c, rfl, hn, hr, hc, h1, h2, h3⟩ := hrel
    have hall := fun w' : World => all64 (w.heap.size + 1) w'
    by_cases h64 : 64 ≤ r.size
    · have hrl := Lib.hid (Lib.size_eq r)
      go_wp2_with (refine wpList_copy_str rfl (.tmp 12) (.tmp 13) rfl (w.heap.size + 1) 64 64 r rfl rfl 51 c h2.out hc ?_; intro w1 h4 h5)
      have e4 : r.data.toList.take 64 ++ c.drop r.size = (l.drop (64 * n)).take 64 := by
        rw [List.drop_of_length_le (by omega), List.append_nil, hr.out]
      have h6 : Blk w1 (w.heap.size + 1) 51 (bv ((l.drop (64 * n)).take 64)) := by rw [← e4]; exact h4.out
      have hb : Below w.heap.size w w1 := h3.out.trans (Gr.below h5.out h3.out.size (by omega))
      have hpl : ((l.drop (64 * n)).take 64).length = 64 := by simp; omega
      refine (process_any (Dg.absorb n Dg.H0 l) ((l.drop (64 * n)).take 64) hpl w.heap.size (w.heap.size + 1) 51 w1 (h1.out.other h5.out (by omega)) h6 (HE.out.new hb)).mono ?_
      rintro e w2 ⟨rfl, h7, h8⟩
      have HB1 := Lib.hid (hb.trans (Gr.below h8 hb.size (Nat.le_refl _)))
      have H7 := Lib.hid h7
      have H6 := Lib.hid (h6.other h8 (by omega))
      clear h7 h8 hb h6 h4 h5 h1 h2 h3
      go_wp2
      go_roundw
      case rel =>
        refine ⟨n + 1, r.extract 64 r.size, (l.drop (64 * n)).take 64, rfl, by rw [ByteArray.size_extract]; omega, ?_, hpl, ?_, H6.out, HB1.out⟩
        · show _ = _
          rw [ext_end, hr.out, List.drop_drop, show 64 * n + 64 = 64 * (n + 1) from by omega]
        · rw [Dg.absorb_snoc]; exact H7.out
      case measure =>
        show (r.extract 64 r.size).size < r.size
        rw [ByteArray.size_extract]; omega
    · have hq : r.size < 64 := by omega
      have hgb : w.heap.size + 1 < wr.heap.size := h2.out.lt
      have HW3 : Hid (∀ w3, wr.setRow (w.heap.size + 1) (bv (List.replicate 64 0)).toArray = w3 → Hid (Blk w3 (w.heap.size + 1) 51 (bv (List.replicate 64 0))) ∧ Hid (Gr (w.heap.size + 1) wr w3)) := by
        rintro w3 rfl
        exact ⟨h2.out.setRow _, Gr.setRow (Gr.refl _ _) _⟩
      have HL := fun (w' : World) => last_copy r hq (w := w') (g := w.heap.size + 1) (t := 51)
      have hcut56 := fun w' : World => cut64 (w.heap.size + 1) 56 w' 56 rfl (by omega)
      have hcut60 := fun w' : World => cut64 (w.heap.size + 1) 60 w' 60 rfl (by omega)
      have HC := Lib.hid (show ∀ v ∈ bv (List.replicate 64 0), v.oneCell' = true from bv_cells _)
      have hrl := Lib.hid (Lib.size_eq r)
      by_cases h56 : 56 ≤ r.size
      · go_wp2_with (first
          | (refine wpList_store_row rfl _ (.tmp 4) (.tmp 18) rfl (w.heap.size + 1) (bv (List.replicate 64 0)).toArray rfl rfl 51 (bv c).toArray h2.out (by rw [info64b]; rfl) (by simp [bv_length, hc]) (by simpa using HC.out) ?_
             generalize hW3 : World.setRow _ _ _ = w3
             obtain ⟨h4, h5⟩ := HW3.out w3 hW3
             clear hW3 HW3)
          | (refine wpList_copy_str rfl (.tmp 19) (.tmp 20) rfl (w.heap.size + 1) 64 64 r rfl rfl 51 (List.replicate 64 0) h4.out rfl ?_
             intro w4 h6 h7
             obtain ⟨hc4, hf4, h8⟩ := HL w4 h6.out
             clear HL))
        have SA := Lib.hid (((h1.out.other h5.out (by omega)).other h7.out (by omega)).other (Gr.set (g := w.heap.size + 1) w4 r.size (.int .u8 128)) (by omega))
        have BA : Hid (Below w.heap.size w (w4.setCell ⟨w.heap.size + 1, r.size, none⟩ (.int .u8 128))) := ((h3.out.trans (Gr.below h5.out h3.out.size (by omega))).trans (Gr.below h7.out (Nat.le_trans h3.out.size h5.out.size) (by omega))).trans (Gr.below (Gr.set (g := w.heap.size + 1) w4 r.size (.int .u8 128)) (Nat.le_trans (Nat.le_trans h3.out.size h5.out.size) h7.out.size) (by omega))
        clear h1 h2 h3 h4 h5 h6 h7 hc4 hf4
        have hc1 : (r.data.toList ++ 128 :: List.replicate (63 - r.size) 0).length = 64 := by rw [List.length_append, List.length_cons, List.length_replicate, ← hrl.out]; omega
        refine (process_any (Dg.absorb n Dg.H0 l) _ hc1 w.heap.size (w.heap.size + 1) 51 _ SA.out h8.out (HE.out.new BA.out)).mono ?_
        rintro e wp ⟨rfl, hp1, hp2⟩
        have HB8 := Lib.hid (h8.out.other hp2 (by omega))
        have HS8 := Lib.hid hp1
        have BB := Lib.hid (BA.out.trans (Gr.below hp2 BA.out.size (Nat.le_refl _)))
        have hgp := BB.out.size
        clear hp1 hp2 h8 SA BA
        have HW3 : Hid (∀ w3, wp.setRow (w.heap.size + 1) (bv (List.replicate 64 0)).toArray = w3 → Hid (Blk w3 (w.heap.size + 1) 51 (bv (List.replicate 64 0))) ∧ Hid (Gr (w.heap.size + 1) wp w3)) := by
          rintro w3 rfl
          exact ⟨HB8.out.setRow _, Gr.setRow (Gr.refl _ _) _⟩
        go_wp2_with (refine wpList_store_row rfl _ (.tmp 4) (.tmp 29) rfl (w.heap.size + 1) (bv (List.replicate 64 0)).toArray rfl rfl 51 (bv (r.data.toList ++ 128 :: List.replicate (63 - r.size) 0)).toArray HB8.out (by rw [info64b]; rfl) (by rw [List.size_toArray, bv_length, hc1]; rfl) (by simpa using HC.out) ?_; generalize hW3 : World.setRow _ _ _ = w9; obtain ⟨h4, h5⟩ := HW3.out w9 hW3; clear hW3 HW3)
        have SC := Lib.hid (HS8.out.other h5.out (by omega))
        have BC := Lib.hid (BB.out.trans (Gr.below h5.out hgp (by omega)))
        have hc0 : (List.replicate 64 (0 : UInt8)).length = 64 := rfl
        clear h5 HB8 HS8 BB
        refine (putWord_at _ (BitVec.ofNat 32 (8 * l.length / 4294967296)) (by rw [BitVec.toNat_ofNat]; omega) (w.heap.size + 1) 56 8 8 51 (bv (List.replicate 64 0)) _ (by omega) h4.out (by rw [bv_length, hc0]; omega)).mono ?_
        rintro e w5 ⟨rfl, h9, h10⟩
        rw [bv_splice] at h9
        have H9 := Lib.hid h9
        have S9 := Lib.hid (SC.out.other h10 (by omega))
        have B9 := Lib.hid (BC.out.trans (Gr.below h10 BC.out.size (by omega)))
        clear h9 h10
        go_wp2_with fail
        refine (putWord_at _ (BitVec.ofNat 32 (8 * l.length)) (by rw [BitVec.toNat_ofNat]; omega) (w.heap.size + 1) 60 4 4 51 _ _ (by omega) H9.out (by rw [bv_length, length_splice _ _ _ (by rw [Dg.be32_length, hc0]; omega), hc0]; omega)).mono ?_
        rintro e w6 ⟨rfl, h11, h12⟩
        rw [bv_splice, Dg.len_block _ hc0] at h11
        have H11 := Lib.hid h11
        have S11 := Lib.hid (S9.out.other h12 (by omega))
        have B11 := Lib.hid (B9.out.trans (Gr.below h12 B9.out.size (by omega)))
        clear h11 h12
        go_wp2_with fail
        refine (process_any (Dg.proc (Dg.absorb n Dg.H0 l) (r.data.toList ++ 128 :: List.replicate (63 - r.size) 0)) _ (by rw [List.length_append, List.length_take, hc0, Dg.be64_length]; rfl) w.heap.size (w.heap.size + 1) 51 w6 S11.out H11.out (HE.out.new B11.out)).mono ?_
        rintro e w7 ⟨rfl, h13, h14⟩
        have H13 := Lib.hid h13
        have B13 := Lib.hid (B11.out.trans (Gr.below h14 B11.out.size (Nat.le_refl _)))
        clear h13 h14
        go_wp2_with fail
        refine (bytes_any _ w.heap.size w7 H13.out).mono ?_
        rintro e w8 ⟨rfl, h15⟩
        have B15 := Lib.hid (B13.out.trans (h15.mono B13.out.size))
        clear h15
        go_wp2
        go_ret
        refine ⟨?_, B15.out⟩
        have HX : (Dg.proc (Dg.proc (Dg.absorb n Dg.H0 l) (r.data.toList ++ 128 :: List.replicate (63 - r.size) 0)) (List.take 56 (List.replicate 64 0) ++ Dg.be64 (8 * s.size))).bytes = Dg.sha s.data.toList := by rw [hl, Dg.sha_long l n r.size (by omega) hq h56, ← hr.out, hll]; rfl
        exact congrArg (fun z : List UInt8 => Ending.returned (.string ⟨z.toArray⟩)) HX
      · go_wp2_with (first
          | (refine wpList_store_row rfl _ (.tmp 4) (.tmp 18) rfl (w.heap.size + 1) (bv (List.replicate 64 0)).toArray rfl rfl 51 (bv c).toArray h2.out (by rw [info64b]; rfl) (by simp [bv_length, hc]) (by simpa using HC.out) ?_
             generalize hW3 : World.setRow _ _ _ = w3
             obtain ⟨h4, h5⟩ := HW3.out w3 hW3
             clear hW3 HW3)
          | (refine wpList_copy_str rfl (.tmp 19) (.tmp 20) rfl (w.heap.size + 1) 64 64 r rfl rfl 51 (List.replicate 64 0) h4.out rfl ?_
             intro w4 h6 h7
             obtain ⟨hc4, hf4, h8⟩ := HL w4 h6.out
             clear HL))
        have SA := Lib.hid (((h1.out.other h5.out (by omega)).other h7.out (by omega)).other (Gr.set (g := w.heap.size + 1) w4 r.size (.int .u8 128)) (by omega))
        have BA : Hid (Below w.heap.size w (w4.setCell ⟨w.heap.size + 1, r.size, none⟩ (.int .u8 128))) := ((h3.out.trans (Gr.below h5.out h3.out.size (by omega))).trans (Gr.below h7.out (Nat.le_trans h3.out.size h5.out.size) (by omega))).trans (Gr.below (Gr.set (g := w.heap.size + 1) w4 r.size (.int .u8 128)) (Nat.le_trans (Nat.le_trans h3.out.size h5.out.size) h7.out.size) (by omega))
        clear h1 h2 h3 h4 h5 h6 h7 hc4 hf4
        have hc0 : (r.data.toList ++ 128 :: List.replicate (63 - r.size) 0).length = 64 := by rw [List.length_append, List.length_cons, List.length_replicate, ← hrl.out]; omega
        refine (putWord_at _ (BitVec.ofNat 32 (8 * l.length / 4294967296)) (by rw [BitVec.toNat_ofNat]; omega) (w.heap.size + 1) 56 8 8 51 (bv (r.data.toList ++ 128 :: List.replicate (63 - r.size) 0)) _ (by omega) h8.out (by rw [bv_length, hc0]; omega)).mono ?_
        rintro e w5 ⟨rfl, h9, h10⟩
        rw [bv_splice] at h9
        have H9 := Lib.hid h9
        have S9 := Lib.hid (SA.out.other h10 (by omega))
        have B9 := Lib.hid (BA.out.trans (Gr.below h10 BA.out.size (by omega)))
        clear h9 h10
        go_wp2_with fail
        refine (putWord_at _ (BitVec.ofNat 32 (8 * l.length)) (by rw [BitVec.toNat_ofNat]; omega) (w.heap.size + 1) 60 4 4 51 _ _ (by omega) H9.out (by rw [bv_length, length_splice _ _ _ (by rw [Dg.be32_length, hc0]; omega), hc0]; omega)).mono ?_
        rintro e w6 ⟨rfl, h11, h12⟩
        rw [bv_splice, Dg.len_block _ hc0] at h11
        have H11 := Lib.hid h11
        have S11 := Lib.hid (S9.out.other h12 (by omega))
        have B11 := Lib.hid (B9.out.trans (Gr.below h12 B9.out.size (by omega)))
        clear h11 h12
        go_wp2_with fail
        refine (process_any (Dg.absorb n Dg.H0 l) _ (by rw [List.length_append, List.length_take, hc0, Dg.be64_length]; rfl) w.heap.size (w.heap.size + 1) 51 w6 S11.out H11.out (HE.out.new B11.out)).mono ?_
        rintro e w7 ⟨rfl, h13, h14⟩
        have H13 := Lib.hid h13
        have B13 := Lib.hid (B11.out.trans (Gr.below h14 B11.out.size (Nat.le_refl _)))
        clear h13 h14
        go_wp2_with fail
        refine (bytes_any _ w.heap.size w7 H13.out).mono ?_
        rintro e w8 ⟨rfl, h15⟩
        have B15 := Lib.hid (B13.out.trans (h15.mono B13.out.size))
        clear h15
        go_wp2
        go_ret
        refine ⟨?_, B15.out⟩
        have HX : (Dg.proc (Dg.absorb n Dg.H0 l) (List.take 56 (r.data.toList ++ 128 :: List.replicate (63 - r.size) 0) ++ Dg.be64 (8 * s.size))).bytes = Dg.sha s.data.toList := by rw [hl, Dg.sha_short l n r.size (by omega) (by omega), ← hr.out, Dg.short_take r.data.toList r.size hrl.out.symm (by omega), hll]
        exact congrArg (fun z : List UInt8 => Ending.returned (.string ⟨z.toArray⟩)) HX
end Go.Proofs.YteiabaddmclmlaaDoor
