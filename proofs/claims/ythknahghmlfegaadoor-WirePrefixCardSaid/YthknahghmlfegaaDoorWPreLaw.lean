/-
  The law WirePrefix.
-/
import Derived.Test.YthknahghmlfegaaDoorWPre3
import Derived.Test.YthknahghmlfegaaDoorWPre4
import Derived.Test.YthknahghmlfegaaDoorWPre5
import Derived.Test.YthknahghmlfegaaDoorWPre6
namespace Go.Proofs.YthknahghmlfegaaDoor
open Go Go.RowKit Go.Shelf

theorem back_end {x z : Wr.Vl} (hx : Wr.Fit x) (hz : Wr.Fit z) (hk : x.K % 5 = z.K % 5) {r : List UInt8} (h : Wr.encV z = Wr.encV x ++ r) : r = [] := by
  have h0 : Wr.encV z = Wr.encV z ++ [] := by simp
  have h5 : z.K % 5 = 0 ∨ z.K % 5 = 1 ∨ z.K % 5 = 2 ∨ z.K % 5 = 3 ∨ z.K % 5 = 4 := by omega
  rcases h5 with k | k | k | k | k
  · have a := back_num hx (hk.trans k) h
    rw [back_num hz k h0] at a
    injection a with a; injection a with _ a; exact a.symm
  · have a := back_int hx (hk.trans k) h
    rw [back_int hz k h0] at a
    injection a with a; injection a with _ a; exact a.symm
  · have a := back_text hx (hk.trans k) h
    rw [back_text hz k h0] at a
    injection a with a; injection a with _ a; exact a.symm
  · have a := back_nums hx (hk.trans k) h
    rw [back_nums hz k h0] at a
    injection a with a; injection a with _ a; exact a.symm
  · have a := back_texts hx (hk.trans k) h
    rw [back_texts hz k h0] at a
    injection a with a; injection a with _ a; exact a.symm

/-- The law WirePrefix, walked. -/
theorem prefix_law (x z : Wr.Vl) (xa ya : Option Addr) (b off c b' off' c' : Nat) (za ua : Option Addr) (d doff e d' doff' e' : Nat) (W : World) (hE : Env W) (hx : FV W x xa ya b off b' off') (hz : FV W z za ua d doff d' doff') :
    Calls Tryd.prog 7 #[argV x xa ya c c', argV z za ua e e'] W fun e w' => e = .returned (.bool true) ∧ Below W.heap.size W w' := by
  cases h1 : Wr.fewB [x] with
  | false => exact prefix_few1 x z xa ya b off c b' off' c' za ua d doff e d' doff' e' W hE hx hz h1
  | true =>
  cases h2 : Wr.fewB [z] with
  | false => exact prefix_few2 x z xa ya b off c b' off' c' za ua d doff e d' doff' e' W hE hx hz h1 h2
  | true =>
  by_cases h3 : x.K % 5 = z.K % 5
  · by_cases h4 : (⟨(Wr.encV z).toArray⟩ : ByteArray).size < (⟨(Wr.encV x).toArray⟩ : ByteArray).size
    · exact prefix_more x z xa ya b off c b' off' c' za ua d doff e d' doff' e' W hE hx hz h1 h2 h3 _ _ rfl rfl h4
    · by_cases h5 : (Wr.encV z).take (Wr.encV x).length = Wr.encV x
      · have h6 : Wr.encV z = Wr.encV x ++ (Wr.encV z).drop (Wr.encV x).length := by
          conv => lhs; rw [← List.take_append_drop (Wr.encV x).length (Wr.encV z), h5]
        have h7 := back_end hx.fit hz.fit h3 h6
        rw [h7, List.append_nil] at h6
        exact prefix_same x z xa ya b off c b' off' c' za ua d doff e d' doff' e' W hE hx hz h1 h2 h3 _ rfl (by rw [h6])
      · refine prefix_other x z xa ya b off c b' off' c' za ua d doff e d' doff' e' W hE hx hz h1 h2 h3 _ _ rfl rfl (by omega) ?_
        rw [Wr.bs_len]
        exact h5
  · exact prefix_few3 x z xa ya b off c b' off' c' za ua d doff e d' doff' e' W hE hx hz h1 h2 h3
end Go.Proofs.YthknahghmlfegaaDoor
