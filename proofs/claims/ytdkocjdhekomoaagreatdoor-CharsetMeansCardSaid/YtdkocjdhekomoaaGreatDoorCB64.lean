/-
  codec.Base64: a range over the lines, in it a range over their groups.
-/
import Derived.Test.YtdkocjdhekomoaaGreatDoorCLine
namespace Go.Proofs.YtdkocjdhekomoaaGreatDoor
open Go Go.RowKit Go.Shelf
theorem retS {l m : List UInt8} (h : l = m) : Ending.returned (.string ⟨l.toArray⟩) = .returned (.string ⟨m.toArray⟩) := by rw [h]
attribute [local go_sem] Oper.semAt_some

theorem five_at (w : World) (a b c d e : Obj) : (((((w.alloc a).alloc b).alloc c).alloc d).alloc e).drew.heap.size = w.heap.size + 5 ∧ (((((w.alloc a).alloc b).alloc c).alloc d).alloc e).drew.heap[w.heap.size]? = some a ∧
    (((((w.alloc a).alloc b).alloc c).alloc d).alloc e).drew.heap[w.heap.size + 1]? = some b ∧ (((((w.alloc a).alloc b).alloc c).alloc d).alloc e).drew.heap[w.heap.size + 1 + 1]? = some c ∧
    (((((w.alloc a).alloc b).alloc c).alloc d).alloc e).drew.heap[w.heap.size + 1 + 1 + 1]? = some d ∧ (((((w.alloc a).alloc b).alloc c).alloc d).alloc e).drew.heap[w.heap.size + 1 + 1 + 1 + 1]? = some e := by
  have new : ∀ (x : World) (o : Obj) (k : Nat), k = x.heap.size → (x.alloc o).heap[k]? = some o := fun x o k hk => by rw [hk]; exact World.alloc_heap_new x o
  have old : ∀ (x : World) (o : Obj) (k : Nat), k < x.heap.size → (x.alloc o).heap[k]? = x.heap[k]? := fun x o k hk => Lib.alloc_old x o k hk
  have sz : ∀ (x : World) (o : Obj), (x.alloc o).heap.size = x.heap.size + 1 := fun x o => World.size_alloc x o
  have s1 := sz w a
  have s2 := sz (w.alloc a) b
  have s3 := sz ((w.alloc a).alloc b) c
  have s4 := sz (((w.alloc a).alloc b).alloc c) d
  have s5 := sz ((((w.alloc a).alloc b).alloc c).alloc d) e
  refine ⟨by show (((((w.alloc a).alloc b).alloc c).alloc d).alloc e).heap.size = _; omega, ?_, ?_, ?_, ?_, ?_⟩
  all_goals show (((((w.alloc a).alloc b).alloc c).alloc d).alloc e).heap[_]? = _
  · rw [old _ _ _ (by omega), old _ _ _ (by omega), old _ _ _ (by omega), old _ _ _ (by omega)]; exact new _ _ _ rfl
  · rw [old _ _ _ (by omega), old _ _ _ (by omega), old _ _ _ (by omega)]; exact new _ _ _ (by omega)
  · rw [old _ _ _ (by omega), old _ _ _ (by omega)]; exact new _ _ _ (by omega)
  · rw [old _ _ _ (by omega)]; exact new _ _ _ (by omega)
  · exact new _ _ _ (by omega)
theorem chunk_in (n : Nat) (b off len cap k : Nat) (hk : 1 ≤ k) (w : World) :
    CallsIn Fence.wide n Tryz.prog 101 #[.slice (some ⟨b, off, none⟩) len cap, .int .i64 k] w fun e w' =>
      e = .returned (.func (.func 119) #[] #[.pointer (some ⟨w.heap.size, 0, none⟩), .pointer (some ⟨w.heap.size + 1, 0, none⟩)]) ∧
      w' = (w.alloc (.cells #[.slice (some ⟨b, off, none⟩) len cap] 32)).alloc (.cells #[.int .i64 k] 3) := by
  refine callsIn_of_wp Tryz.func101 rfl trivial ?_ rfl
  simp only [Tryz.ntmps101, List.size_toArray, List.length_cons, List.length_nil, Nat.reduceAdd, Nat.reduceSub, Array.replicate_succ, Array.replicate_zero, List.push_toArray, List.append_toArray, List.nil_append, List.cons_append]
  have hk2 : (1 : Int) ≤ (k : Int) := by omega
  gi_wp2
  go_ret
  exact ⟨rfl, rfl⟩

theorem chunk_stops (md : Nat) (hmd : 1 ≤ md) (b off len cap n : Nat) (hn : 0 < n) (hn2 : n ≤ 1000) (hlen : len ≤ 1000000) (hcap : len ≤ cap) (hoff : off + len ≤ 100000000) (Bs Bn : Nat) (hne : Bs ≠ Bn) (w : World) (hBs : Bs < w.heap.size) (hBn : Bn < w.heap.size)
    (h1 : w.heap[Bs]? = some (.cells #[.slice (some ⟨b, off, none⟩) len cap] 32 (0, 0))) (h2 : w.heap[Bn]? = some (.cells #[.int .i64 n] 3 (0, 0))) :
    SeqStopsK Fence.wide (md + 1) Tryz.prog 119 #[.pointer (some ⟨Bs, 0, none⟩), .pointer (some ⟨Bn, 0, none⟩)] (fun x : Piece off (off + len) n => #[pieceV b x.1]) (KpC Bs Bn)
      (fun ys => ys.map (fun x => (x.1.1 - off, x.1.2)) = Cd.parts n len) (fun _ => True) (Cd.cnt n len) w :=
  fun l J Jx W hW hJ _ hY h0 => (chunk1_in md hmd b off len cap n hn hn2 hlen hcap hoff l Bs Bn W.heap.size hne J Jx hJ hY W ((hW.block Bs hBs).trans h1) ((hW.block Bn hBn).trans h2) h0)

set_option maxRecDepth 100000 in
set_option maxHeartbeats 4000000 in
theorem base64_any (s : ByteArray) (w : World) (hs : s.size ≤ 1000000) :
    Calls Tryz.prog 75 #[.string s] w fun e w' => e = .returned (.string ⟨(Cd.base64 s.data.toList).toArray⟩) ∧ Below w.heap.size w w' := by
  have HD := Lib.hid (digitsOf_any ⟨#[65, 66, 67, 68, 69, 70, 71, 72, 73, 74, 75, 76, 77, 78, 79, 80, 81, 82, 83, 84, 85, 86, 87, 88, 89, 90, 97, 98, 99, 100, 101, 102, 103, 104, 105, 106, 107, 108, 109, 110, 111, 112, 113, 114, 115, 116, 117, 118, 119, 120, 121, 122, 48, 49, 50, 51, 52, 53, 54, 55, 56, 57, 43, 47]⟩ w (by decide))
  refine (callsIn_wide (n := 8)).1 ?_
  refine callsIn_of_wp_marks Tryz.func75 rfl trivial ?_ rfl
  simp only [Tryz.ntmps75, List.size_toArray, List.length_cons, List.length_nil, Nat.reduceAdd, Nat.reduceSub, Array.replicate_succ, Array.replicate_zero, List.push_toArray, List.append_toArray, List.nil_append, List.cons_append]
  have hcv := fun W => run_bytes_of_string (P := Tryz.prog) W 9 32 5 s Tryz.underlying9 Tryz.underlying32 Tryz.underlying5
  gi_wp2_with (first
    | (refine ⟨trivial, ?_⟩; gi_at_call 100; refine (callsIn_wide.2 HD.out).mono ?_; rintro e w1 ⟨rfl, hT, hB1⟩)
    | (refine ⟨trivial, ?_⟩; gi_at_call 101; refine (chunk_in _ _ 0 s.size _ 57 (by omega) _).mono ?_; rintro e w' ⟨rfl, rfl⟩))
  have hT : Tab w.heap.size 64 (Cd.digF Cd.digs 64) w1 := hT
  have htl := hT.lt
  clear HD hcv
  have hcap := grownCap_ge ((w1.alloc (.cells #[.map (some w.heap.size)] 89)).alloc (.cells #[.pointer none, .slice none 0 0] 40)) s.size 0 5
  generalize grownCap ((w1.alloc (.cells #[.map (some w.heap.size)] 89)).alloc (.cells #[.pointer none, .slice none 0 0] 40)) s.size 0 5 = cap at hcap ⊢
  have hC : Hid (∀ (j : Nat) (c : UInt8), s.data.toList[j]? = some c → (bytesRow s cap)[j]? = some (.int .u8 c.toNat)) := by
    intro j c hj
    have hl : j < s.data.size := by
      have := (List.getElem?_eq_some_iff.1 hj).1
      simpa using this
    rw [bytesRow_at s _ j hl]
    have e : s.data[j] = c := by
      have := (List.getElem?_eq_some_iff.1 hj).2
      simpa using this
    rw [e]
  generalize bytesRow s cap = C at hC ⊢
  obtain ⟨W5, hW5⟩ : ∃ W5, (((((w1.alloc (.cells #[.map (some w.heap.size)] 89)).alloc (.cells #[.pointer none, .slice none 0 0] 40)).alloc (.cells C 5 (C.size, C.size + 1))).alloc
    (.cells #[.slice (some ⟨w1.heap.size + 1 + 1, 0, none⟩) s.size cap] 32)).alloc (.cells #[.int .i64 57] 3)).drew = W5 := ⟨_, rfl⟩
  obtain ⟨hs5, hbox, hbl, hg5, hBs5, hBn5⟩ := five_at w1 (.cells #[.map (some w.heap.size)] 89) (.cells #[.pointer none, .slice none 0 0] 40) (.cells C 5 (C.size, C.size + 1))
    (.cells #[.slice (some ⟨w1.heap.size + 1 + 1, 0, none⟩) s.size cap] 32) (.cells #[.int .i64 57] 3)
  rw [hW5] at hs5 hbox hbl hg5 hBs5 hBn5
  have hB5 : Below w1.heap.size w1 W5 := by
    rw [← hW5]
    exact below_drews ((((((Below.refl _ w1).alloc (Nat.le_refl _) _).alloc (by simp) _).alloc (by simp; omega) _).alloc (by simp; omega) _).alloc (by simp; omega) _) 1
  rw [hW5]
  clear hW5
  have hT5 := hT.below hB5 htl
  have hB5' := hB1.trans (hB5.mono hB1.size)
  generalize w1.heap.size = n1 at *
  clear hB1 hB5 hT
  have hLs := Lib.size_eq s
  generalize hL : s.data.toList = L at *
  have hLs1 : L.length ≤ s.size := by omega
  have hLs2 : s.size ≤ L.length := by omega
  have HLs := Lib.hid hLs
  have HL := Lib.hid hL
  clear hL hLs
  refine wpIn_rangeFunc_ownH rfl (by omega) (gf := 119) (lb := #[.pointer (some ⟨n1 + 1 + 1 + 1, 0, none⟩), .pointer (some ⟨n1 + 1 + 1 + 1 + 1, 0, none⟩)]) rfl trivial (enters_of Tryz.func119 (by kernel_rfl) rfl)
    (chunk_stops 6 (by omega) (n1 + 1 + 1) 0 s.size cap 57 (by omega) (by omega) hs hcap (by omega) (n1 + 1 + 1 + 1) (n1 + 1 + 1 + 1 + 1) (by omega) W5 (by omega) (by omega) hBs5 hBn5)
    KpC.trans (fun W l o o' _ hl ho _ => KpC.putObj W l o o' hl ho) (Below.refl _ _) (fun _ => rfl)
    (fun pre W => BldX (n1 + 5) (n1 + 1) (Cd.lins L (pre.map Subtype.val)) W ∧ Fr (n1 + 5) (n1 + 1) W5 W)
    (fun _ _ _ => False)
    (OwnFrom.and ((BldX.own _ _ (fun (pre : List (Piece 0 (0 + s.size) 57)) => Cd.lins L (pre.map Subtype.val))).from _) (fr_own (Nat.le_refl _) (by omega)))
    (fun _ _ _ _ _ hs _ _ => hs)
    ⟨BldX.fresh hbl (by omega), Fr.refl _ _ _⟩
    (fun x a' _ => a' = { tmps := #[.string s, undef, .string ⟨#[]⟩, .pointer (some ⟨n1, 0, none⟩), .pointer (some ⟨n1 + 1, 0, none⟩), .slice (some ⟨n1 + 1 + 1, x.1.1, none⟩) x.1.2 x.1.2, undef, .map (some w.heap.size), .string s, .slice (some ⟨n1 + 1 + 1, 0, none⟩) s.size cap, .func (.func 119) #[] #[.pointer (some ⟨n1 + 1 + 1 + 1, 0, none⟩), .pointer (some ⟨n1 + 1 + 1 + 1 + 1, 0, none⟩)], .slice (some ⟨n1 + 1 + 1, x.1.1, none⟩) x.1.2 x.1.2, undef, undef, undef, undef, undef, undef, undef, undef], defers := [] })
    (fun _ _ _ _ _ _ hs _ _ => hs)
    ?assign ?body ?done ?stop
  case assign =>
    rintro l pre x W K hi hK
    gi_wp2
    exact hK _ _ (KeepsFrom.refl _ _) (fun _ _ _ _ _ h => h) hi rfl
  case body =>
    rintro l pre x a' W hl ⟨r, hr⟩ ⟨hBx, hF⟩ rfl hlt
    have hsW := hF.size
    have hboxW : W.heap[n1]? = some (.cells #[.map (some w.heap.size)] 89 (0, 0)) := (hF.low n1 (by omega) (by omega)).trans hbox
    have hgW : W.heap[n1 + 1 + 1]? = some (.cells C 5 (C.size, C.size + 1)) := (hF.low (n1 + 1 + 1) (by omega) (by omega)).trans hg5
    have hTW := hT5.block (hF.low w.heap.size (by omega) (by omega))
    obtain ⟨px, vx, hblW⟩ := hBx.at_
    have hx2 := x.2
    have hxl : (Cd.lins L (pre.map Subtype.val)).length ≤ 77 * pre.length := by
      have := Cd.lins_le L (pre.map Subtype.val) (by intro z hz; obtain ⟨u, _, rfl⟩ := List.mem_map.1 hz; exact u.2.2.2.2)
      simpa using this
    have hcnt := Cd.cnt_le 57 s.size (by omega)
    have HX := Lib.hid hxl
    gi_wp2_with (refine ⟨trivial, ?_⟩; gi_at_call 101; refine (CallsIn.inRound l (chunk_in _ (n1 + 1 + 1) x.1.1 x.1.2 x.1.2 3 (by omega) _)).mono ?_; rintro e w' ⟨rfl, rfl⟩)
    obtain ⟨W2, hW2⟩ : ∃ W2, ((W.alloc (.cells #[.slice (some ⟨n1 + 1 + 1, x.1.1, none⟩) x.1.2 x.1.2] 32)).alloc (.cells #[.int .i64 3] 3)) = W2 := ⟨_, rfl⟩
    have hs2 : W2.heap.size = W.heap.size + 2 := by rw [← hW2]; simp
    have hp2 : W2.heap[W.heap.size]? = some (.cells #[.slice (some ⟨n1 + 1 + 1, x.1.1, none⟩) x.1.2 x.1.2] 32 (0, 0)) := by rw [← hW2]; exact (Lib.alloc_old _ _ _ (by simp)).trans (World.alloc_heap_new W _)
    have hq2 : W2.heap[W.heap.size + 1]? = some (.cells #[.int .i64 3] 3 (0, 0)) := by
      rw [← hW2]; have := World.alloc_heap_new (W.alloc (.cells #[.slice (some ⟨n1 + 1 + 1, x.1.1, none⟩) x.1.2 x.1.2] 32)) (.cells #[.int .i64 3] 3); rwa [World.size_alloc] at this
    have hlW := (Array.getElem?_eq_some_iff.1 hr).1
    have hr2 : W2.heap[l]? = some (.loop r) := by rw [← hW2]; exact (Lib.alloc_old _ _ _ (by simp; omega)).trans ((Lib.alloc_old _ _ _ hlW).trans hr)
    have hBx2 : BldX (n1 + 5) (n1 + 1) (Cd.lins L (pre.map Subtype.val) ++ Cd.grps L []) W2 := by rw [← hW2]; show BldX _ _ (_ ++ []) _; rw [List.append_nil]; exact (hBx.alloc _).alloc _
    have hF2 : Fr (n1 + 5) (n1 + 1) W W2 := by rw [← hW2]; exact ((Fr.refl _ _ W).alloc _ (by omega)).alloc _ (by simp; omega)
    rw [hW2]
    clear hW2 hr hBx
    refine wpIn_rangeFunc_ownN (l₀ := l) (r₀ := r) rfl hr2 (by omega) (gf := 119) (lb := #[.pointer (some ⟨W.heap.size, 0, none⟩), .pointer (some ⟨W.heap.size + 1, 0, none⟩)]) rfl trivial (enters_of Tryz.func119 (by kernel_rfl) rfl)
      ((chunk_stops 4 (by omega) (n1 + 1 + 1) x.1.1 x.1.2 x.1.2 3 (by omega) (by omega) (by omega) (Nat.le_refl _) (by omega) W.heap.size (W.heap.size + 1) (by omega) W2 (by omega) (by omega) hp2 hq2).inRound l)
      KpC.trans (fun W l o o' _ hl ho _ => KpC.putObj W l o o' hl ho) (Below.refl _ _) (fun _ => rfl)
      (fun pre' W' => (BldX (n1 + 5) (n1 + 1) (Cd.lins L (pre.map Subtype.val) ++ Cd.grps L (pre'.map Subtype.val)) W' ∧ Fr (n1 + 5) (n1 + 1) W W') ∧
        (W'.heap[W.heap.size]? = some (.cells #[.slice (some ⟨n1 + 1 + 1, x.1.1, none⟩) x.1.2 x.1.2] 32 (0, 0)) ∧ W'.heap[W.heap.size + 1]? = some (.cells #[.int .i64 3] 3 (0, 0))))
      (fun _ _ _ => False)
      (OwnFrom.and (OwnFrom.and ((BldX.own _ _ (fun (pre' : List (Piece x.1.1 (x.1.1 + x.1.2) 3)) => Cd.lins L (pre.map Subtype.val) ++ Cd.grps L (pre'.map Subtype.val))).from _) (fr_own (by omega) (by omega))) (OwnFrom.and ((cells_own _ _ _ _).from _) ((cells_own _ _ _ _).from _)))
      (fun _ _ _ _ _ hs _ _ => hs)
      ⟨⟨hBx2, hF2⟩, hp2, hq2⟩
      (fun y a'' _ => a'' = { tmps := #[.string s, undef, .string ⟨#[]⟩, .pointer (some ⟨n1, 0, none⟩), .pointer (some ⟨n1 + 1, 0, none⟩), .slice (some ⟨n1 + 1 + 1, x.1.1, none⟩) x.1.2 x.1.2, .slice (some ⟨n1 + 1 + 1, y.1.1, none⟩) y.1.2 y.1.2, .map (some w.heap.size), .string s, .slice (some ⟨n1 + 1 + 1, 0, none⟩) s.size cap, .func (.func 119) #[] #[.pointer (some ⟨n1 + 1 + 1 + 1, 0, none⟩), .pointer (some ⟨n1 + 1 + 1 + 1 + 1, 0, none⟩)], .slice (some ⟨n1 + 1 + 1, x.1.1, none⟩) x.1.2 x.1.2, .slice (some ⟨n1 + 1 + 1, x.1.1, none⟩) x.1.2 x.1.2, .func (.func 119) #[] #[.pointer (some ⟨W.heap.size, 0, none⟩), .pointer (some ⟨W.heap.size + 1, 0, none⟩)], .slice (some ⟨n1 + 1 + 1, y.1.1, none⟩) y.1.2 y.1.2, undef, undef, undef, undef, undef], defers := [] })
      (fun _ _ _ _ _ _ hs _ _ => hs)
      ?assign2 ?body2 ?done2 ?stop2
    case assign2 =>
      rintro l2 pre' y W' K hi hK
      gi_wp2
      exact hK _ _ (KeepsFrom.refl _ _) (fun _ _ _ _ _ h => h) hi rfl
    case body2 =>
      rintro l2 pre' y a'' W' _ _ ⟨⟨hBx', hF'⟩, hp', hq'⟩ rfl hlt2
      have hy2 := y.2
      have hbox' : W'.heap[n1]? = some (.cells #[.map (some w.heap.size)] 89 (0, 0)) := (hF'.low n1 (by omega) (by omega)).trans hboxW
      have hcell : W'.cell? ⟨n1, 0, none⟩ = some (.map (some w.heap.size)) := by simp [World.cell?, hbox']
      have hg' : W'.heap[n1 + 1 + 1]? = some (.cells C 5 (C.size, C.size + 1)) := (hF'.low (n1 + 1 + 1) (by omega) (by omega)).trans hgW
      have hT' := hTW.block (hF'.low w.heap.size (by omega) (by omega))
      have hs' := hF'.size
      obtain ⟨p', v', hbl'⟩ := hBx'.at_
      have hpl := Cd.part_len L y.1 (by omega)
      have hgl : (Cd.grps L (pre'.map Subtype.val)).length = 4 * pre'.length := by rw [Cd.grps_len]; simp
      have hc19 : Cd.cnt 3 x.1.2 ≤ x.1.2 := Cd.cnt_le _ _ (by omega)
      have hby : ByAt W' (n1 + 1 + 1) y.1.1 (Cd.part L y.1) := by
        intro j c hj
        have hj2 : L[y.1.1 + j]? = some c := by
          unfold Cd.part at hj
          rw [List.getElem?_take] at hj
          split at hj
          · rwa [List.getElem?_drop] at hj
          · cases hj
        have := hC.out _ _ hj2
        simp [World.cell?, hg', this]
      have WG := writeGroup_any (n1 + 5) (n1 + 1) _ (n1 + 1 + 1) y.1.1 y.1.2 (Cd.part L y.1) w.heap.size 64 W' hBx' hT' (by omega) (by omega) (by rw [List.length_append, hgl]; have := HX.out; omega) (by omega) (by omega) (by omega) hby (by omega)
      rw [hpl] at WG
      have HWG := Lib.hid WG
      have HBL := Lib.hid hbl'
      clear WG hby hgl hpl hbl' hBx'
      gi_wp2_with (refine ⟨trivial, ?_⟩; gi_at_call 102; refine (CallsIn.inRound l2 (callsIn_wide.2 HWG.out)).mono ?_; rintro e w3 ⟨rfl, hBx3, hF3⟩)
      exact ⟨(hF3.keeps HBL.out).from _, hF3.kp2 (by omega) (by omega) hp' hq', ⟨⟨by rw [List.map_append, List.map_cons, List.map_nil, Cd.grps_snoc, ← List.append_assoc]; exact hBx3, hF'.trans hF3⟩,
        hF3.oth _ _ hp' (fun e => by have := Option.some.inj e; omega) (fun _ _ e => by cases e), hF3.oth _ _ hq' (fun e => by have := Option.some.inj e; omega) (fun _ _ e => by cases e)⟩⟩
    case done2 =>
      rintro ys' W' hys ⟨⟨hBx', hF'⟩, hp', hq'⟩
      have hs' := hF'.size
      have hline : Cd.grps L (ys'.map Subtype.val) = Cd.b64line (Cd.part L x.1) := by
        refine Cd.line_eq L x.1 (by omega) _ ?_ (by rw [List.map_map]; exact hys)
        intro z hz
        obtain ⟨u, _, rfl⟩ := List.mem_map.1 hz
        exact ⟨u.2.1, u.2.2.1⟩
      rw [hline] at hBx'
      have hll : (Cd.b64line (Cd.part L x.1)).length ≤ 76 := by
        rw [Cd.b64line_len, Cd.part_len L x.1 (by omega)]
        have : Cd.cnt 3 x.1.2 ≤ 19 := by unfold Cd.cnt; omega
        omega
      have HWB := Lib.hid (wbx_any (n1 + 5) (n1 + 1) _ 10 W' hBx' (by rw [List.length_append]; have := HX.out; omega) (by omega))
      clear hline hll hBx' hp' hq'
      gi_wp2_with (refine ⟨trivial, ?_⟩; gi_at_call 103; refine (CallsIn.inRound l (callsIn_wide.2 HWB.out)).mono ?_; rintro e w3 ⟨rfl, hBx3, hF3⟩)
      have hFF := hF'.trans hF3
      exact ⟨(hFF.keeps hblW).from _, hFF.kp (by omega) (by omega) (by omega) (by omega), by rw [List.map_append, List.map_cons, List.map_nil, Cd.lins_snoc, ← List.append_assoc]; exact hBx3, hF.trans hFF⟩
    case stop2 =>
      rintro c pre' W' _ h
      exact h.elim
  case done =>
    rintro D ys W hD hys ⟨hBx, hF⟩ hK
    have hsW := hF.size
    have HE : Hid (Cd.lins L (ys.map Subtype.val) = Cd.base64 L) := by
      refine Cd.base_eq L _ ?_
      refine Eq.trans ?_ (hys.trans (by rw [HLs.out]))
      apply List.map_congr_left
      intro u _
      rfl
    have HB := Lib.hid (hF.below (C := w.heap.size) (by omega) (by omega))
    clear hys
    gi_wp2_with (refine ⟨trivial, ?_⟩; gi_at_call 39; refine (callsIn_wide.2 (str_any (n1 + 1) (n1 + 1) _ _ hBx.bld (by omega))).mono ?_; rintro e w' ⟨rfl, hB2, hk2⟩)
    have hK' := hk2.same D _ hK rfl
    refine ⟨by simp, .inl ⟨_, _, rfl, run_takeDeferred hK', ?_⟩⟩
    refine ⟨_, results_tmp rfl _ _ _, ?_⟩
    refine ⟨retS (by rw [HE.out, HL.out]), ?_⟩
    exact ((hB5'.trans HB.out).trans (hB2.mono (by omega))).trans (belowK_b (w := w) (Nat.le_refl _) w' D _ _ (by omega) hK' rfl rfl)
  case stop =>
    rintro D c pre W _ _ h _
    exact h.elim
end Go.Proofs.YtdkocjdhekomoaaGreatDoor
