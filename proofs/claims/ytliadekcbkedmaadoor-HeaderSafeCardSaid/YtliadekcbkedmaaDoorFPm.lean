/-
  What the rounds of Parse keep in memory.
-/
import Derived.Test.YtliadekcbkedmaaDoorFJn
namespace Go.Proofs.YtliadekcbkedmaaDoor
open Go Go.RowKit Go.Shelf
theorem own_block {w w' : World} {base : Nat} {e : TypeId} {size : Nat} {v : Value} {n : Nat} {xs : List Value} (h : w.ownsRow base e size v n xs) (hs : ∀ k, v.ownBlock = some k → w'.heap[k]? = w.heap[k]?) : w'.ownsRow base e size v n xs := by
  refine ⟨h.1, ?_⟩
  rcases h.2 with hn | ⟨g, cap, cur, rfl, hb, hg, rest⟩
  · exact .inl hn
  · exact .inr ⟨g, cap, cur, rfl, hb, (hs g rfl).trans hg, rest⟩
theorem own_kind {w : World} {base : Nat} {e : TypeId} {size : Nat} {v : Value} {n : Nat} {xs : List Value} (h : w.ownsRow base e size v n xs) {k : Nat} (hk : v.ownBlock = some k) : ∃ c, w.heap[k]? = some (.cells c e (0, 0)) := by
  rcases h.2 with ⟨rfl, _⟩ | ⟨g, cap, cur, rfl, hb, hg, rest⟩
  · cases hk
  · injection hk with hk
    subst hk
    exact ⟨cur, hg⟩
theorem own_apart {w : World} {base base2 : Nat} {e e2 : TypeId} {size size2 : Nat} {v u : Value} {n n2 : Nat} {xs ys : List Value} (h : w.ownsRow base e size v n xs) (h2 : w.ownsRow base2 e2 size2 u n2 ys) (he : e ≠ e2) {k : Nat} (hk : v.ownBlock = some k) : u.ownBlock ≠ some k := fun hk2 => by
  obtain ⟨c, hc⟩ := own_kind h hk
  obtain ⟨d, hd⟩ := own_kind h2 hk2
  rw [hc] at hd
  injection hd with hd
  injection hd with _ hd
  exact he hd
theorem own_set1 {w : World} {base g cap n : Nat} {e : TypeId} {xs : List Value} (h : w.ownsRow base e 1 (.slice (some ⟨g, 0, none⟩) n cap) n xs) (i : Nat) (u : Value) : (w.setCell ⟨g, i, none⟩ u).ownsRow base e 1 (.slice (some ⟨g, 0, none⟩) n cap) n (xs.set i u) := by
  rcases h.2 with ⟨h0, _⟩ | ⟨g', cap', cur, hv, hbg, hg, hnc, hcm, hcs, htake⟩
  · cases h0
  injection hv with hv1 _ hv2
  injection hv1 with hv1
  injection hv1 with hv1
  subst hv1
  subst hv2
  have h3 : (w.setCell ⟨g, i, none⟩ u).heap[g]? = some (.cells (cur.setIfInBounds i u) e (0, 0)) := by simp [World.setCell, Array.getElem?_modify, hg]
  refine ⟨by rw [List.length_set]; exact h.1, .inr ⟨g, cap, _, rfl, hbg, h3, hnc, hcm, by simpa using hcs, ?_⟩⟩
  rw [← htake]
  simp only [Array.toList_setIfInBounds, List.take_set]
/-- No block in common. -/
def NB (a b : Value) : Prop := ∀ k, a.ownBlock = some k → b.ownBlock ≠ some k
theorem NB.symm {a b : Value} (h : NB a b) : NB b a := fun k hk hk2 => h k hk2 hk
theorem NB.sf {w : World} {a b b' : Value} (h : NB a b) (ha : ∀ k, a.ownBlock = some k → k < w.heap.size) (hs : SF w b b') : NB a b' := fun k hk hk2 => by
  rcases hs with h1 | ⟨x, h1, h2⟩
  · exact h k hk (h1.symm.trans hk2)
  · rw [h1] at hk2; injection hk2 with hk2; have := ha k hk; omega
theorem infoSS : (Tryd.prog.info? 41).map (fun i => (i.zero, i.size, i.bytes)) = some (some (.slice none 0 0), 1, 24) := by kernel_rfl
/-- The variables of Parse, and what they hold. n0: the first of their blocks. -/
structure PM (n0 : Nat) (W : World) (NM : List (List UInt8)) (e m : Nat) (nv pv : Value) (hs : List Value) (Ls : List (List (List UInt8))) : Prop where
  r0 : W.heap[n0]? = some (.cells #[.slice none 0 0] 33 (0, 0))
  r1 : W.heap[n0 + 1]? = some (.cells #[.int .i64 0] 3 (0, 0))
  b4 : W.heap[n0 + 2]? = some (.cells #[nv] 41 (0, 0))
  b5 : W.heap[n0 + 3]? = some (.cells #[pv] 68 (0, 0))
  b6 : W.heap[n0 + 4]? = some (.cells #[.int .i64 e] 3 (0, 0))
  nm : SOwn W (n0 + 6) nv NM
  pt : W.ownsRow (n0 + 6) 41 1 pv hs.length hs
  inn : ∀ (i : Nat) (h : Value) (L : List (List UInt8)), hs[i]? = some h → Ls[i]? = some L → SOwn W (n0 + 6) h L
  l2 : Ls.length = hs.length
  ok : ∀ L ∈ Ls, L.length ≤ m ∧ ∀ x ∈ L, x ≠ [] ∧ x.length ≤ 30000
  ap : (nv :: hs).Pairwise NB
variable {n0 : Nat} {W W1 W2 : World} {NM : List (List UInt8)} {e m : Nat} {nv pv : Value} {hs : List Value} {Ls : List (List (List UInt8))}
theorem PM.innOf (h : PM n0 W NM e m nv pv hs Ls) {x : Value} (hx : x ∈ hs) : ∃ L, SOwn W (n0 + 6) x L := by
  obtain ⟨i, hi⟩ := List.mem_iff_getElem?.1 hx
  have hl := (List.getElem?_eq_some_iff.1 hi).1
  exact ⟨_, h.inn i x _ hi (List.getElem?_eq_getElem (by rw [h.l2]; exact hl))⟩
theorem PM.lt (h : PM n0 W NM e m nv pv hs Ls) : n0 + 4 < W.heap.size := (Array.getElem?_eq_some_iff.1 h.b6).1
theorem PM.same (h : PM n0 W NM e m nv pv hs Ls) (h0 : ∀ k, n0 ≤ k → k < n0 + 5 → W1.heap[k]? = W.heap[k]?) (h1 : ∀ k, nv.ownBlock = some k → W1.heap[k]? = W.heap[k]?) (h2 : ∀ k, pv.ownBlock = some k → W1.heap[k]? = W.heap[k]?) (h3 : ∀ x ∈ hs, ∀ k, x.ownBlock = some k → W1.heap[k]? = W.heap[k]?) : PM n0 W1 NM e m nv pv hs Ls :=
  ⟨(h0 _ (by omega) (by omega)).trans h.r0, (h0 _ (by omega) (by omega)).trans h.r1, (h0 _ (by omega) (by omega)).trans h.b4, (h0 _ (by omega) (by omega)).trans h.b5, (h0 _ (by omega) (by omega)).trans h.b6, own_block h.nm h1, own_block h.pt h2,
    fun i x L hx hL => own_block (h.inn i x L hx hL) (h3 x (List.mem_of_getElem? hx)), h.l2, h.ok, h.ap⟩
theorem PM.new (h : PM n0 W NM e m nv pv hs Ls) (hb : Below W.heap.size W W1) : PM n0 W1 NM e m nv pv hs Ls :=
  h.same (fun k _ hk => hb.block k (by have := h.lt; omega)) (fun k hk => hb.block k (own_lt h.nm k hk)) (fun k hk => hb.block k (own_lt h.pt k hk)) (fun x hx k hk => by
    obtain ⟨L, hL⟩ := h.innOf hx
    exact hb.block k (own_lt hL k hk))
theorem PM.more (h : PM n0 W NM e m nv pv hs Ls) {m' : Nat} (hm : m ≤ m') : PM n0 W NM e m' nv pv hs Ls :=
  { h with ok := fun L hL => ⟨by have := (h.ok L hL).1; omega, (h.ok L hL).2⟩ }
/-- end = e'. -/
theorem PM.end_ (h : PM n0 W NM e m nv pv hs Ls) (e' : Nat) : PM n0 (W.setCell ⟨n0 + 4, 0, none⟩ (.int .i64 e')) NM e' m nv pv hs Ls := by
  have ho : ∀ k, k ≠ n0 + 4 → (W.setCell ⟨n0 + 4, 0, none⟩ (.int .i64 e')).heap[k]? = W.heap[k]? := fun k hk => Below.heap_setCell _ _ _ _ (fun e => hk (by simpa using e))
  have hf : ∀ (base : Nat) (t : TypeId) (v : Value) (n : Nat) (xs : List Value), base = n0 + 6 → W.ownsRow base t 1 v n xs → ∀ k, v.ownBlock = some k → k ≠ n0 + 4 := fun base t v n xs hb ho k hk => by have := own_from ho k hk; omega
  refine ⟨(ho _ (by omega)).trans h.r0, (ho _ (by omega)).trans h.r1, (ho _ (by omega)).trans h.b4, (ho _ (by omega)).trans h.b5, by simp [World.setCell, Array.getElem?_modify, h.b6], own_block h.nm (fun k hk => ho k (hf _ _ _ _ _ rfl h.nm k hk)), own_block h.pt (fun k hk => ho k (hf _ _ _ _ _ rfl h.pt k hk)),
    fun i x L hx hL => own_block (h.inn i x L hx hL) (fun k hk => ho k (hf _ _ _ _ _ rfl (h.inn i x L hx hL) k hk)), h.l2, h.ok, h.ap⟩
/-- names = append(names, x). -/
theorem PM.name (h : PM n0 W NM e m nv pv hs Ls) {nv' : Value} {x : List UInt8} (hg : W.grownBy W1 nv.ownBlock) (ho : SOwn W1 (n0 + 6) nv' (NM ++ [x])) (hsf : SF W nv nv') : PM n0 (W1.setCell ⟨n0 + 2, 0, none⟩ nv') (NM ++ [x]) e m nv' pv hs Ls := by
  have hlt := h.lt
  have hnv := own_from h.nm
  have hb4 : W1.heap[n0 + 2]? = some (.cells #[nv] 41 (0, 0)) := (hg.block _ (by omega) (fun e => by have := hnv _ e.symm; omega)).trans h.b4
  have hst : ∀ k, k ≠ n0 + 2 → (W1.setCell ⟨n0 + 2, 0, none⟩ nv').heap[k]? = W1.heap[k]? := fun k hk => Below.heap_setCell _ _ _ _ (fun e => hk (by simpa using e))
  have hk : ∀ k, k < W.heap.size → k ≠ n0 + 2 → nv.ownBlock ≠ some k → (W1.setCell ⟨n0 + 2, 0, none⟩ nv').heap[k]? = W.heap[k]? := fun k h1 h2 h3 => (hst k h2).trans (hg.block k h1 (fun e => h3 e.symm))
  have hs0 : ∀ k, k < n0 + 6 → nv.ownBlock ≠ some k := fun k hk e => by have := hnv k e; omega
  have hap := List.pairwise_cons.1 h.ap
  refine ⟨(hk _ (by omega) (by omega) (hs0 _ (by omega))).trans h.r0, (hk _ (by omega) (by omega) (hs0 _ (by omega))).trans h.r1, by simp [World.setCell, Array.getElem?_modify, hb4], (hk _ (by omega) (by omega) (hs0 _ (by omega))).trans h.b5, (hk _ (by omega) (by omega) (hs0 _ (by omega))).trans h.b6,
    own_block ho (fun k e => hst k (by have := own_from ho k e; omega)), own_block h.pt (fun k e => hk k (own_lt h.pt k e) (by have := own_from h.pt k e; omega) (own_apart h.pt h.nm (by decide) e)), fun i y L hy hL => ?_, h.l2, h.ok, ?_⟩
  · have hi := h.inn i y L hy hL
    exact own_block hi (fun k e => hk k (own_lt hi k e) (by have := own_from hi k e; omega) (fun e2 => hap.1 y (List.mem_of_getElem? hy) k e2 e))
  · refine List.pairwise_cons.2 ⟨fun y hy => ?_, hap.2⟩
    obtain ⟨L, hL⟩ := h.innOf hy
    exact ((hap.1 y hy).symm.sf (own_lt hL) hsf).symm
/-- parts = append(parts, nil). -/
theorem PM.part0 (h : PM n0 W NM e m nv pv hs Ls) {pv' : Value} (hg : W.grownBy W1 pv.ownBlock) (ho : W1.ownsRow (n0 + 6) 41 1 pv' (hs ++ [Value.slice none 0 0]).length (hs ++ [Value.slice none 0 0])) : PM n0 (W1.setCell ⟨n0 + 3, 0, none⟩ pv') NM e m nv pv' (hs ++ [.slice none 0 0]) (Ls ++ [[]]) := by
  have hlt := h.lt
  have hpv := own_from h.pt
  have hb5 : W1.heap[n0 + 3]? = some (.cells #[pv] 68 (0, 0)) := (hg.block _ (by omega) (fun e => by have := hpv _ e.symm; omega)).trans h.b5
  have hst : ∀ k, k ≠ n0 + 3 → (W1.setCell ⟨n0 + 3, 0, none⟩ pv').heap[k]? = W1.heap[k]? := fun k hk => Below.heap_setCell _ _ _ _ (fun e => hk (by simpa using e))
  have hk : ∀ k, k < W.heap.size → k ≠ n0 + 3 → pv.ownBlock ≠ some k → (W1.setCell ⟨n0 + 3, 0, none⟩ pv').heap[k]? = W.heap[k]? := fun k h1 h2 h3 => (hst k h2).trans (hg.block k h1 (fun e => h3 e.symm))
  have hs0 : ∀ k, k < n0 + 6 → pv.ownBlock ≠ some k := fun k hk e => by have := hpv k e; omega
  have hap := List.pairwise_cons.1 h.ap
  have hnil : ∀ y, NB y (.slice none 0 0) := fun y k _ e => by cases e
  refine ⟨(hk _ (by omega) (by omega) (hs0 _ (by omega))).trans h.r0, (hk _ (by omega) (by omega) (hs0 _ (by omega))).trans h.r1, (hk _ (by omega) (by omega) (hs0 _ (by omega))).trans h.b4, by simp [World.setCell, Array.getElem?_modify, hb5], (hk _ (by omega) (by omega) (hs0 _ (by omega))).trans h.b6,
    own_block h.nm (fun k e => hk k (own_lt h.nm k e) (by have := own_from h.nm k e; omega) (own_apart h.nm h.pt (by decide) e)), own_block ho (fun k e => hst k (by have := own_from ho k e; omega)), fun i y L hy hL => ?_, by rw [List.length_append, List.length_append, h.l2]; rfl, fun L hL => ?_, ?_⟩
  · by_cases hi : i < hs.length
    · rw [List.getElem?_append_left hi] at hy
      rw [List.getElem?_append_left (by rw [h.l2]; exact hi)] at hL
      have hii := h.inn i y L hy hL
      exact own_block hii (fun k e => hk k (own_lt hii k e) (by have := own_from hii k e; omega) (own_apart hii h.pt (by decide) e))
    · have hil := (List.getElem?_eq_some_iff.1 hy).1
      rw [List.length_append, List.length_singleton] at hil
      obtain rfl : i = hs.length := by omega
      rw [List.getElem?_append_right (Nat.le_refl _), Nat.sub_self] at hy
      rw [List.getElem?_append_right (by rw [h.l2]; exact Nat.le_refl _), h.l2, Nat.sub_self] at hL
      cases hy
      cases hL
      exact SOwn.nil _ _
  · rcases List.mem_append.1 hL with hL | hL
    · exact h.ok L hL
    · obtain rfl := List.mem_singleton.1 hL
      exact ⟨Nat.zero_le _, fun x hx => by cases hx⟩
  · rw [← List.cons_append, List.pairwise_append]
    exact ⟨h.ap, List.pairwise_singleton _ _, fun a ha b hb => by obtain rfl := List.mem_singleton.1 hb; exact hnil a⟩
/-- parts[last] = append(parts[last], x). -/
theorem PM.add {h0 : List Value} {hv hv' : Value} {L0 : List (List (List UInt8))} {L : List (List UInt8)} {x : List UInt8} {pg pcap : Nat} (h : PM n0 W NM e m nv (.slice (some ⟨pg, 0, none⟩) (h0 ++ [hv]).length pcap) (h0 ++ [hv]) (L0 ++ [L])) (hl : L0.length = h0.length)
    (hg : W.grownBy W1 hv.ownBlock) (ho : SOwn W1 (n0 + 6) hv' (L ++ [x])) (hsf : SF W hv hv') (hm : L.length + 1 ≤ m) (hx : x ≠ [] ∧ x.length ≤ 30000) :
    PM n0 (W1.setCell ⟨pg, h0.length, none⟩ hv') NM e m nv (.slice (some ⟨pg, 0, none⟩) (h0 ++ [hv']).length pcap) (h0 ++ [hv']) (L0 ++ [L ++ [x]]) := by
  have hlt := h.lt
  have hiv := h.inn h0.length hv L (by simp) (by rw [← hl]; simp)
  have hvf := own_from hiv
  have hpg : n0 + 6 ≤ pg := own_from h.pt pg rfl
  have hpgl : pg < W.heap.size := own_lt h.pt pg rfl
  have hpn : hv.ownBlock ≠ some pg := own_apart h.pt hiv (by decide) rfl
  have hst : ∀ k, k ≠ pg → (W1.setCell ⟨pg, h0.length, none⟩ hv').heap[k]? = W1.heap[k]? := fun k hk => Below.heap_setCell _ _ _ _ (fun e => hk (by simpa using e))
  have hk : ∀ k, k < W.heap.size → k ≠ pg → hv.ownBlock ≠ some k → (W1.setCell ⟨pg, h0.length, none⟩ hv').heap[k]? = W.heap[k]? := fun k h1 h2 h3 => (hst k h2).trans (hg.block k h1 (fun e => h3 e.symm))
  have hs0 : ∀ k, k < n0 + 6 → hv.ownBlock ≠ some k := fun k hk e => by have := hvf k e; omega
  have hap := List.pairwise_cons.1 h.ap
  have hap2 := List.pairwise_append.1 hap.2
  have hpt1 : W1.ownsRow (n0 + 6) 41 1 (.slice (some ⟨pg, 0, none⟩) (h0 ++ [hv]).length pcap) (h0 ++ [hv]).length (h0 ++ [hv]) := own_block h.pt (fun k e => hg.block k (own_lt h.pt k e) (fun e2 => by cases e; exact hpn e2.symm))
  have hset := own_set1 hpt1 h0.length hv'
  have e1 : (h0 ++ [hv]).set h0.length hv' = h0 ++ [hv'] := by simp
  have e2 : (h0 ++ [hv]).length = (h0 ++ [hv']).length := by simp
  rw [e1, e2] at hset
  have hpg5 : ∀ k, k < n0 + 6 → k ≠ pg := fun k hk e => by omega
  refine ⟨(hk _ (by omega) (hpg5 _ (by omega)) (hs0 _ (by omega))).trans h.r0, (hk _ (by omega) (hpg5 _ (by omega)) (hs0 _ (by omega))).trans h.r1, (hk _ (by omega) (hpg5 _ (by omega)) (hs0 _ (by omega))).trans h.b4, ?_, (hk _ (by omega) (hpg5 _ (by omega)) (hs0 _ (by omega))).trans h.b6,
    own_block h.nm (fun k e => hk k (own_lt h.nm k e) (fun e3 => by subst e3; exact own_apart h.pt h.nm (by decide) rfl e) (fun e3 => hap.1 hv (by simp) k e e3)), hset, fun i y M hy hM => ?_, by simp [hl], fun M hM => ?_, ?_⟩
  · rw [← e2]
    exact (hk _ (by omega) (hpg5 _ (by omega)) (hs0 _ (by omega))).trans h.b5
  · by_cases hi : i < h0.length
    · rw [List.getElem?_append_left hi] at hy
      rw [List.getElem?_append_left (by rw [hl]; exact hi)] at hM
      have hii := h.inn i y M (by rw [List.getElem?_append_left hi]; exact hy) (by rw [List.getElem?_append_left (by rw [hl]; exact hi)]; exact hM)
      exact own_block hii (fun k e => hk k (own_lt hii k e) (fun e3 => by subst e3; exact own_apart h.pt hii (by decide) rfl e) (fun e3 => hap2.2.2 y (List.mem_of_getElem? hy) hv (by simp) k e e3))
    · have hil := (List.getElem?_eq_some_iff.1 hy).1
      rw [List.length_append, List.length_singleton] at hil
      obtain rfl : i = h0.length := by omega
      rw [List.getElem?_append_right (Nat.le_refl _), Nat.sub_self] at hy
      rw [List.getElem?_append_right (by rw [hl]; exact Nat.le_refl _), hl, Nat.sub_self] at hM
      cases hy
      cases hM
      refine own_block ho (fun k e => hst k (fun e3 => ?_))
      subst e3
      rcases hsf with h4 | ⟨z, h4, h5⟩
      · exact hpn (h4.symm.trans e)
      · rw [h4] at e; injection e with e; omega
  · rcases List.mem_append.1 hM with hM | hM
    · exact h.ok M (by simp [hM])
    · obtain rfl := List.mem_singleton.1 hM
      refine ⟨by rw [List.length_append, List.length_singleton]; exact hm, fun y hy => ?_⟩
      rcases List.mem_append.1 hy with hy | hy
      · exact (h.ok L (by simp)).2 y hy
      · obtain rfl := List.mem_singleton.1 hy
        exact hx
  · refine List.pairwise_cons.2 ⟨fun y hy => ?_, ?_⟩
    · rcases List.mem_append.1 hy with hy | hy
      · exact hap.1 y (by simp [hy])
      · obtain rfl := List.mem_singleton.1 hy
        exact (hap.1 hv (by simp)).sf (own_lt h.nm) hsf
    · rw [List.pairwise_append]
      refine ⟨hap2.1, List.pairwise_singleton _ _, fun a ha b hb => ?_⟩
      obtain rfl := List.mem_singleton.1 hb
      obtain ⟨M, hM⟩ := h.innOf (x := a) (by simp [ha])
      exact (hap2.2.2 a ha hv (by simp)).sf (own_lt hM) hsf
/-- What joined reads. -/
theorem PM.reads (h : PM n0 W NM e m nv pv hs Ls) : ∃ na nb nc pa pb pc, nv = .slice na NM.length nc ∧ pv = .slice pa hs.length pc ∧ Lv W na nb 0 nc NM ∧ PR W pa pb Ls := by
  obtain ⟨na, nb, nc, rfl, hn⟩ := h.nm.row
  rcases h.pt.2 with ⟨rfl, h0⟩ | ⟨g, cap, cur, rfl, hb, hg, hnc, hcm, hcs, ht⟩
  · exact ⟨na, nb, nc, none, 0, 0, rfl, by rw [h0], hn, ⟨fun hp => by have := h.l2; omega, fun hp => by have := h.l2; omega, fun j L hj => by have := (List.getElem?_eq_some_iff.1 hj).1; have := h.l2; omega⟩⟩
  · refine ⟨na, nb, nc, _, g, cap, rfl, rfl, hn, ⟨fun _ => rfl, fun _ => (Array.getElem?_eq_some_iff.1 hg).1, fun j L hj => ?_⟩⟩
    have hjl := (List.getElem?_eq_some_iff.1 hj).1
    have hjh : j < hs.length := by rw [← h.l2]; exact hjl
    have hh : hs[j]? = some (hs[j]'hjh) := List.getElem?_eq_getElem hjh
    obtain ⟨xa, b, c, hv, hL⟩ := (h.inn j _ L hh hj).row
    refine ⟨xa, b, c, ?_, hL⟩
    have := World.ownsRow.cells (g := g) h.pt rfl j _ hh
    rw [add_plain0] at this
    rw [this, hv]
end Go.Proofs.YtliadekcbkedmaaDoor
