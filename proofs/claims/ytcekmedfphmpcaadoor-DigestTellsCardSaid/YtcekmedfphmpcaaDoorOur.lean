/-
  The program's functions of stage 3 answer as the laws ask (Dig).
-/
import Derived.Test.YtcekmedfphmpcaaDoorDig
import Derived.Test.YtcekmedfphmpcaaDoorCrcP
import Derived.Test.YtcekmedfphmpcaaDoorShortP
import Derived.Test.YtcekmedfphmpcaaDoorHexP
import Derived.Test.YtcekmedfphmpcaaDoorUnhexP
import Derived.Test.YtcekmedfphmpcaaDoorSumP
namespace Go.Proofs.YtcekmedfphmpcaaDoor
open Go.RowKit

theorem dig : Dig Laid where
  keep := fun w w' h b => h.keep b
  crc0 := fun l w h => crcP l w (by omega)
  sum := fun l w h hL => sumP l w (by omega) hL
  short := fun l w h hL => shortP l w (sumP l w (by omega) hL)
  hex := fun l w h => hexP l w (by omega)
  unhex := fun l w h => unhexP l w (by omega)
end Go.Proofs.YtcekmedfphmpcaaDoor
