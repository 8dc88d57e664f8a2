/-
  The reference's lines: all loads and stores.
-/
import Derived.Test.YticklgoegmobbaaDoorRStx
import Derived.Test.YticklgoegmobbaaDoorRLockA
import Derived.Test.YticklgoegmobbaaDoorRLockB
namespace Go.Proofs.YticklgoegmobbaaDoor
open Go Go.RowKit
set_option linter.unusedVariables false
theorem moves_any (o d s f m : Int) (w : World) :
    Calls Tryd.prog 56 #[insV o d s f m] w fun e w' => e = .returned (.string (tx (movesL o d s f m))) ∧ Below w.heap.size w w' := by
  cases hc : (o % 8 == 1)
  · cases hc2 : (o % 8 == 2)
    · cases hm : (o / 32 == 3)
      · cases ho : (o == 195)
        · cases ho2 : (o == 219)
          · exact moves_none o d s f m w hc hc2 hm ho ho2
          · exact moves_lock219 o d s f m w hc hc2 hm ho ho2
        · exact moves_lock195 o d s f m w hc hc2 hm ho
      · exact moves_stx o d s f m w hc hc2 hm
    · exact moves_st o d s f m w hc2 hc
  · exact moves_load o d s f m w hc
end Go.Proofs.YticklgoegmobbaaDoor
