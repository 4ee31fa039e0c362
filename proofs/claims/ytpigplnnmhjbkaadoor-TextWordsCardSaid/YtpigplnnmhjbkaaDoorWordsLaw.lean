/-
  The law on words: for every two strings.
-/
import Derived.Test.YtpigplnnmhjbkaaDoorWordsWalk
namespace Go.Proofs.YtpigplnnmhjbkaaDoor
open Go Go.RowKit Go.Shelf
set_option maxHeartbeats 1000000 in
set_option maxRecDepth 100000 in
theorem words_long (s t : ByteArray) (w : World) (hm : MaxAt w) (hs : s.size ≤ 9223372036854775807) (ht : t.size ≤ 9223372036854775807) (hl : 300 < s.size ∨ 300 < t.size) :
    Calls Tryd.prog 5 #[.string s, .string t] w fun e w' => e = .returned (.bool true) ∧ Below w.heap.size w w' := by
  have HM := Lib.hid hm
  clear hm
  by_cases h1 : 300 < s.size
  · clear hl
    go_enter Tryd.func5, Tryd.ntmps5
    go_wp2_with fail
    refine (small_any _ HM.out).mono ?_
    rintro e w1 ⟨rfl, hB1⟩
    go_wp2
    go_ret
    exact ⟨rfl, hB1⟩
  · have h2 : 300 < t.size := by omega
    clear hl
    go_enter Tryd.func5, Tryd.ntmps5
    go_wp2_with fail
    refine (small_any _ HM.out).mono ?_
    rintro e w1 ⟨rfl, hB1⟩
    go_wp2
    go_ret
    exact ⟨rfl, hB1⟩

theorem words_law_any (s t : ByteArray) (w : World) (hm : MaxAt w) (hs : s.size ≤ 9223372036854775807) (ht : t.size ≤ 9223372036854775807) :
    Calls Tryd.prog 5 #[.string s, .string t] w fun e w' => e = .returned (.bool true) ∧ Below w.heap.size w w' := by
  by_cases hl : 300 < s.size ∨ 300 < t.size
  · exact words_long s t w hm hs ht hl
  · exact words_short s t ⟨(Tx.trim s.data.toList).toArray⟩ ⟨(Tx.squeeze s.data.toList).toArray⟩ (Tx.words s.data.toList) (Tx.words t.data.toList) w hm (by omega) (by omega) rfl rfl rfl rfl
end Go.Proofs.YtpigplnnmhjbkaaDoor
