import Derived.Test.YtgjomknpjigkhaaGreatDoorS01
import Derived.Test.YtgjomknpjigkhaaGreatDoorS52
namespace Go.Proofs.YtgjomknpjigkhaaGreatDoor
set_option maxRecDepth 100000
set_option maxHeartbeats 4000000
section
open Go.ChangeShapes Go.WideShapes Go.ChangeAt Go.RowKit
theorem ownP:ownKnob Tryz.prog.godebug=none:=by kernel_rfl
theorem printed_lifted (os:Os) (started:os.Started) (H:Type) (enc:TypeId×Value→H) (F:Stop.Interp) :
  ReturnsInHanded {} Tryz.checked os 7 .any ((OpenSpec.ofChange Rows.printedSpec).preRow enc Tryz.prog Tryz.f7 Rows.printedRow.domain false Rows.printedRow.laid) (((OpenSpec.ofChange Rows.printedSpec).at F).post enc Tryz.prog Tryz.f7 false true false false):=by
 obtain ⟨places,hx⟩:=printed_reads os enc
 refine returnsInHanded_of_row (C:=Tryz.checked) (s:=OpenSpec.ofChange Rows.printedSpec) ownP started (by kernel_rfl) Tryz.func7
  (witness_row_at (enc:=enc) (C:=Tryz.checked) false (laidP os) #[.string ⟨#[]⟩] rfl (by kernel_rfl) (by kernel_rfl) (by kernel_rfl)
   (OpenSpec.preRow_of_cond 8 hx (by kernel_rfl) (fun k hk=>by cases hk) (by kernel_rfl) (laidP_met os))) ?_
 intro W base args ds gs before hval hW _ _ _ _ _ _
 exact printed_contract H enc W base args ds gs before hval hW
theorem printed_said:Rows.PrintedSaid:=
 OpenClaim.holds_of_cond 7 Tryz.f7 rfl rfl rfl rfl rfl rfl rfl ⟨rfl,rfl,rfl,rfl,rfl⟩ rfl rfl rfl rfl rfl (by kernel_rfl) Tryz.func7 printed_facts
  (of_decide_eq_true (by kernel_rfl)) (by unfold Func.isWrapper;first | (rw [if_pos (by decide +kernel)];kernel_rfl) | (rw [if_neg (by decide +kernel)];exact ⟨rfl,rfl⟩))
  (fun os started H enc _ F=>by rw [OpenClaim.pre_eq_preRow];exact printed_lifted os started H enc F)
theorem printed_card:Rows.PrintedCardSaid:=
 Claim7.holds_tied_plain_at .later [] _ _ _ _ printed_said (fun _ h=>by cases h) (by kernel_rfl) (fun _ h=>by cases h) printed_row_tie rfl ⟨rfl,rfl⟩ (by kernel_rfl) rfl printed_plain (by kernel_rfl)
end
end Go.Proofs.YtgjomknpjigkhaaGreatDoor
