/- The tags that the law's examples ask. -/
import Derived.Test.YtokijignhpcjlaaDoorH1
namespace Go.Proofs.YtokijignhpcjlaaDoor
open Go.RowKit Go.Own
set_option maxRecDepth 1000000 in
theorem tag_jefe : tagL [74, 101, 102, 101] [119, 104, 97, 116, 32, 100, 111, 32, 121, 97, 32, 119, 97, 110, 116, 32, 102, 111, 114, 32, 110, 111, 116, 104, 105, 110, 103, 63] = [91, 220, 193, 70, 191, 96, 117, 78, 106, 4, 36, 38, 8, 149, 117, 199, 90, 0, 63, 8, 157, 39, 57, 131, 157, 236, 88, 185, 100, 236, 56, 67] := by decide +kernel
set_option maxRecDepth 1000000 in
theorem tag_jefe2 : tagL [106, 101, 102, 101] [119, 104, 97, 116, 32, 100, 111, 32, 121, 97, 32, 119, 97, 110, 116, 32, 102, 111, 114, 32, 110, 111, 116, 104, 105, 110, 103, 63] = [245, 136, 106, 39, 118, 212, 10, 103, 24, 48, 239, 209, 97, 114, 110, 33, 183, 219, 217, 240, 211, 165, 81, 84, 40, 222, 53, 50, 78, 172, 170, 219] := by decide +kernel
end Go.Proofs.YtokijignhpcjlaaDoor
