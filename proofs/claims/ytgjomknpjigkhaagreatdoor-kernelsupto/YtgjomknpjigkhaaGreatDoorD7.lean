/- Kernels: the row, the card. -/
import Derived.Test.YtgjomknpjigkhaaGreatDoorD5
import Derived.Test.YtgjomknpjigkhaaGreatDoorD6
import Derived.Test.YtgjomknpjigkhaaGreatDoorD4
namespace Go.Proofs.YtgjomknpjigkhaaGreatDoor
open Go.ChangeShapes Go.WideShapes Go.ChangeAt Go.RowKit

set_option maxRecDepth 100000 in
theorem kernels_lifted (os : Os) (started : os.Started) (H : Type) (enc : TypeId × Value → H) (F : Stop.Interp) :
    ReturnsInHanded {} Tryz.checked os 3 .any ((Rows.OpenSpec.upto Rows.kernelsSpec).preRow enc Tryz.prog Tryz.f3 Rows.kernelsUptoRow.domain false Rows.kernelsUptoRow.laid) (((Rows.OpenSpec.upto Rows.kernelsSpec).at F).post enc Tryz.prog Tryz.f3 false true false false) := by
  obtain ⟨places, hx⟩ := kernels_reads os enc
  refine returnsInHanded_of_row (C := Tryz.checked) (s := Rows.OpenSpec.upto Rows.kernelsSpec) Tryz.own started (by kernel_rfl) Tryz.func3
    (witness_row_at (enc := enc) (C := Tryz.checked) false (laidW os) #[.slice none 0 0] rfl (by kernel_rfl) (by kernel_rfl) (by kernel_rfl)
      (OpenSpec.preRow_of_cond 8 hx (by kernel_rfl) (fun k hk => by cases hk; kernel_rfl) (by kernel_rfl) (laidW_met os))) ?_
  intro W base args ds gs before hval hW _ hcond _ _ _ _
  exact kernels_contract H enc W base args ds gs before hval hW (hcond _ rfl)

theorem kernels_said : Rows.KernelsUptoSaid :=
  OpenClaim.holds_of_cond 3 Tryz.f3 rfl rfl rfl rfl rfl rfl rfl ⟨rfl, rfl, rfl, rfl, rfl⟩ rfl rfl rfl rfl rfl (by kernel_rfl) Tryz.func3 kernels_facts
    (of_decide_eq_true (by kernel_rfl)) (by unfold Func.isWrapper; first | (rw [if_pos (by decide +kernel)]; kernel_rfl) | (rw [if_neg (by decide +kernel)]; exact ⟨rfl, rfl⟩))
    (fun os started H enc _ F => by rw [OpenClaim.pre_eq_preRow]; exact kernels_lifted os started H enc F)

theorem kernels_card : Rows.KernelsUptoCardSaid :=
  Claim7.holds_tied_plain_at .later [] _ _ _ _ kernels_said (fun _ h => by cases h) (by kernel_rfl) (fun _ h => by cases h) kernelsUpto_row_tie rfl ⟨rfl, rfl⟩ (by kernel_rfl) rfl kernels_plain (by kernel_rfl)

end Go.Proofs.YtgjomknpjigkhaaGreatDoor
