/-
  The reference's Sum, whole.
-/
import Derived.Test.YteiabaddmclmlaaDoorDRefI
import Derived.Test.YteiabaddmclmlaaDoorDRefS
namespace Go.Proofs.YteiabaddmclmlaaDoor
open Go Go.RowKit Go.Shelf
theorem rblock : RBlock := fun s m at_ hat hml gs cs gb n cb hn w hS hB hgb => rblock_any s m at_ hat hml gs cs gb n cb hn w hS hB hgb
theorem rsum : RSum := fun s hs w => rsum_of rblock s hs w
end Go.Proofs.YteiabaddmclmlaaDoor
