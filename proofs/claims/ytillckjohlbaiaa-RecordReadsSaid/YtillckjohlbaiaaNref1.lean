/- The document's two, four, Check. -/
import Derived.Test.YtillckjohlbaiaaNleaf
import Derived.Test.YtillckjohlbaiaaFbyt

namespace Go.Proofs.Ytillckjohlbaiaa
set_option maxRecDepth 100000
open Go.RowKit

end Go.Proofs.Ytillckjohlbaiaa
