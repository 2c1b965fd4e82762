/-
  The reference's functions answer as RoomTells asks.
-/
import Derived.Test.YtfeiapkifoakoaaOf
namespace Go.Proofs.Ytfeiapkifoakoaa
theorem refRoom : RefRoom := refRoom_of ofSpec
end Go.Proofs.Ytfeiapkifoakoaa
