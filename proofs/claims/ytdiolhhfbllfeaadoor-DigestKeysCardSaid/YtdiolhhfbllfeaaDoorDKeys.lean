/-
  DigestKeys's law.
-/
import Derived.Test.YtdiolhhfbllfeaaDoorDKeysA
import Derived.Test.YtdiolhhfbllfeaaDoorDKeysB
import Derived.Test.YtdiolhhfbllfeaaDoorDKeysC
namespace Go.Proofs.YtdiolhhfbllfeaaDoor
open Go Go.RowKit Go.Shelf
set_option maxHeartbeats 8000000 in
set_option maxRecDepth 100000 in
theorem keys_law (key s : ByteArray) (w : World) (hE : Env w) :
    Calls Tryd.prog 9 #[.string key, .string s] w fun e w' => e = .returned (.bool true) ∧ Below w.heap.size w w' := by
  have HS := Lib.hid (small_any w hE)
  by_cases h1 : 2000 < key.size
  · go_enter Tryd.func9, Tryd.ntmps9
    go_wp2_with fail
    refine HS.out.mono ?_
    rintro e w0 ⟨rfl, hb⟩
    go_wp2
    go_ret
    exact ⟨rfl, hb⟩
  by_cases h2 : 2000 < s.size
  · go_enter Tryd.func9, Tryd.ntmps9
    go_wp2_with fail
    refine HS.out.mono ?_
    rintro e w0 ⟨rfl, hb⟩
    go_wp2
    go_ret
    exact ⟨rfl, hb⟩
  by_cases h64 : key.size < 64
  · exact keys_A key s h1 h2 h64 w hE
  by_cases h65 : key.size = 64
  · exact keys_B key s h1 h2 h65 w hE
  · exact keys_C key s h1 h2 (by omega) w hE
end Go.Proofs.YtdiolhhfbllfeaaDoor
