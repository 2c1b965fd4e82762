/-
  The program's functions answer as the laws ask.
-/
import Derived.Test.YtfeiapkifoakoaaCut
import Derived.Test.YtfeiapkifoakoaaAdd
import Derived.Test.YtfeiapkifoakoaaFn4
import Derived.Test.YtfeiapkifoakoaaFn5
import Derived.Test.YtfeiapkifoakoaaFn7
namespace Go.Proofs.Ytfeiapkifoakoaa

theorem room : Room where
  right := fun v l w _ hr => rightP v l w hr
  total := fun v l w _ hr => totalP v l w hr
  add := fun v l s w hl hw hr => addP v l s w hl hw hr
  cut := fun v l s w hl hw hr => cutProg v l s w hl hw hr
  has := fun v l s w _ hw hr => hasP v l s w hw hr
  meets := fun v l s w _ hw hr => meetsP v l s w hw hr
  fit := fun v l size d from_ until_ w _ hr h1 h2 => fitP v l size d from_ until_ w hr h1 h2
end Go.Proofs.Ytfeiapkifoakoaa
