/- The document's Deep of layer 15. -/
import Derived.Test.YtcboggoindhmkaaProg
import Derived.Test.YtcboggoindhmkaaEl
import Derived.Test.YtcboggoindhmkaaRn
namespace Go.Proofs.Ytcboggoindhmkaa
open Go.RowKit

end Go.Proofs.Ytcboggoindhmkaa
