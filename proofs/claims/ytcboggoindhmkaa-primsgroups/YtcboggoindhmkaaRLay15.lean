/- The document's lay and Encode of layer 15. (By gen_lay.py.) -/
import Derived.Test.YtcboggoindhmkaaLay15
namespace Go.Proofs.Ytcboggoindhmkaa
open Go.RowKit

theorem layE_made (c n : Int) (s : ByteArray) (els : List El) : layE (.mk c true n s els) = hd (64 * c + n + 32) (layE.L els).length ++ layE.L els := by simp [layE, tagE]
theorem layE_plain (c n : Int) (s : ByteArray) (els : List El) : layE (.mk c false n s els) = hd (64 * c + n) s.size ++ nums s := by simp [layE, tagE]
end Go.Proofs.Ytcboggoindhmkaa
