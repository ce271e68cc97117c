/- Kernels: the row's closed facts. -/
import Derived.Test.YtgjomknpjigkhaaGreatDoorRows
import Derived.ProofKit
import Derived.JoinedCond
namespace Go.Proofs.YtgjomknpjigkhaaGreatDoor

set_option maxHeartbeats 100000000 in
theorem kernels_facts : joinedFacts Tryz.pinned.checked.prog 3 Tryz.f3 (Rows.OpenSpec.upto Rows.kernelsSpec).bare Rows.kernelsUptoRow = true := by
  unfold joinedFacts
  with_reducible repeat' refine Bool.and_eq_true_iff.mpr ⟨?_, ?_⟩
  all_goals as_aux_lemma => kernel_rfl

end Go.Proofs.YtgjomknpjigkhaaGreatDoor
