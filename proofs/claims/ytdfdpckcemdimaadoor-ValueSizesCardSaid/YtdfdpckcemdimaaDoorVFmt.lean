/- The library's FormatInt in base ten, by the shelf (OUT=ShelfF shelf.py SEAT strconv_FormatInt_10). -/
import Derived.Test.YtdfdpckcemdimaaDoorShelfF
import Derived.Test.YtdfdpckcemdimaaDoorVRefWrite
import Derived.Lib.AppendIntMem
namespace Go.Proofs.YtdfdpckcemdimaaDoor.V
open Go.RowKit
theorem fmt_says : FmtSays := by
  intro n w h0 h1 ht
  refine (Tryd.strconv_FormatInt_10 n h0 h1 w ht).mono ?_
  rintro e w' ⟨he, k, os, rfl⟩
  exact ⟨he, Lib.below_grow _ w (Nat.le_refl _) k os⟩
end Go.Proofs.YtdfdpckcemdimaaDoor.V
