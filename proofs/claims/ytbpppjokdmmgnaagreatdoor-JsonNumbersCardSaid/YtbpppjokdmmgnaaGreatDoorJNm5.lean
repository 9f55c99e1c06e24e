/-
  The text of a number's value.
-/
import Derived.Test.YtbpppjokdmmgnaaGreatDoorJNm1
namespace Go.Proofs.YtbpppjokdmmgnaaGreatDoor.Jsn
open Go.RowKit Txt
theorem run_text (l : List UInt8) (w : World) : (Instr.field 27 (.agg #[.int .i64 3, .bool false, .string (mk l), .slice none 0 0, .slice none 0 0]) 2).run Tryz.prog w = .ok (.string (mk l)) w := by
  have hz := Tryz.sizeOf9
  have hg := Tryz.isAgg9
  simp [Instr.field, run_underlying Tryz.underlying27, part, asAgg, go_sem, hz, hg]
end Go.Proofs.YtbpppjokdmmgnaaGreatDoor.Jsn
