/- What Set, Take of the program's slab answer. -/
import Derived.Test.YthaapkafamdhcaaDoorSlabD
import Derived.BigRegion
namespace Go.Proofs.YthaapkafamdhcaaDoor
open Go.RowKit
set_option maxRecDepth 10000

end Go.Proofs.YthaapkafamdhcaaDoor
