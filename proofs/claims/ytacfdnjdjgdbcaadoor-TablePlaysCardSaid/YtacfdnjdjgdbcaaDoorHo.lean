/- The law of bursts: the walk. -/
import Derived.Test.YtacfdnjdjgdbcaaDoorHd
namespace Go.Proofs.YtacfdnjdjgdbcaaDoor
set_option maxRecDepth 100000
open Go.RowKit M

theorem bit_math32 {v k : Nat} (hv : v < 4294967296) : (bits BinOp.and IntKind.u32 ((v : Int) / 2 ^ k) 1 == 1) = decide (v / 2 ^ k % 2 = 1) := by
  rw [ipow, ← Int.natCast_ediv, and32_1 (Nat.lt_of_le_of_lt (Nat.div_le_self _ _) hv), Bool.eq_iff_iff]
  simp only [beq_iff_eq, decide_eq_true_eq]; omega

end Go.Proofs.YtacfdnjdjgdbcaaDoor
