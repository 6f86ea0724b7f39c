/- The two examples that the statements look at, reckoned. -/
import Derived.Test.YtblgkmkcoojakaaDoorMixDigMath
namespace Go.Proofs.YtblgkmkcoojakaaDoor

set_option maxRecDepth 100000 in
theorem sum_abc : sumL [97, 98, 99] = [80, 140, 94, 140, 50, 124, 20, 226, 225, 167, 43, 163, 78, 235, 69, 47, 55, 69, 139, 32, 158, 214, 58, 41, 77, 153, 155, 76, 134, 103, 89, 130] := by decide +kernel

set_option maxRecDepth 100000 in
theorem keyed_text : keyedL [107, 101, 121] [116, 101, 120, 116] = [158, 31, 105, 202, 121, 34, 223, 151, 244, 103, 48, 12, 201, 83, 72, 16, 75, 118, 155, 198, 80, 236, 51, 38, 94, 186, 105, 151, 166, 242, 164, 211] := by decide +kernel
end Go.Proofs.YtblgkmkcoojakaaDoor
