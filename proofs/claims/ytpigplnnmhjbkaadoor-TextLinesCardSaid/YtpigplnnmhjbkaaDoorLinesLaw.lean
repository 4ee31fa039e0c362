/-
  The law on lines: for every list and every string.
-/
import Derived.Test.YtpigplnnmhjbkaaDoorLinesWalk
namespace Go.Proofs.YtpigplnnmhjbkaaDoor
open Go Go.RowKit Go.Shelf
set_option maxHeartbeats 1000000 in
set_option maxRecDepth 100000 in
theorem lines_long (xa : Option Addr) (n cap : Nat) (s : ByteArray) (w : World) (hm : MaxAt w) (hn : n ≤ 9223372036854775807) (hs : s.size ≤ 9223372036854775807) (hl : 40 < n ∨ 300 < s.size) :
    Calls Tryd.prog 6 #[.slice xa n cap, .string s] w fun e w' => e = .returned (.bool true) ∧ Below w.heap.size w w' := by
  have HM := Lib.hid hm
  clear hm
  by_cases h1 : 40 < n
  · clear hl
    go_enter Tryd.func6, Tryd.ntmps6
    go_wp2_with fail
    refine (small_any _ HM.out).mono ?_
    rintro e w1 ⟨rfl, hB1⟩
    go_wp2
    go_ret
    exact ⟨rfl, hB1⟩
  · have h2 : 300 < s.size := by omega
    clear hl
    go_enter Tryd.func6, Tryd.ntmps6
    go_wp2_with fail
    refine (small_any _ HM.out).mono ?_
    rintro e w1 ⟨rfl, hB1⟩
    go_wp2
    go_ret
    exact ⟨rfl, hB1⟩
theorem lines_law_any {v : Value} {xa : Option Addr} {b off cap : Nat} {X : List (List UInt8)} (s : ByteArray) (w : World) (hm : MaxAt w) (hr : RowOf w v xa b off cap X) (hl : X.length ≤ 9223372036854775807) (hz : ∀ x ∈ X, x.length ≤ 9223372036854775807) (hs : s.size ≤ 9223372036854775807) :
    Calls Tryd.prog 6 #[v, .string s] w fun e w' => e = .returned (.bool true) ∧ Below w.heap.size w w' := by
  obtain rfl := hr.is
  by_cases hb : 40 < X.length ∨ 300 < s.size
  · exact lines_long xa X.length cap s w hm hl hs hb
  · exact lines_short xa b off cap X s _ w hm hr (by omega) hz (by omega) rfl
end Go.Proofs.YtpigplnnmhjbkaaDoor
