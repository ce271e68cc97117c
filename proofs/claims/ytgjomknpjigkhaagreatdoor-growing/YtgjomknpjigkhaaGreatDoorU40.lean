import Derived.Test.YtgjomknpjigkhaaGreatDoorU01
import Derived.Test.YtgjomknpjigkhaaGreatDoorU39
namespace Go.Proofs.YtgjomknpjigkhaaGreatDoor
open Go.Proofs.Tryz
set_option maxRecDepth 100000
set_option maxHeartbeats 4000000
section
open Go.ChangeShapes Go.WideShapes Go.ChangeAt Go.RowKit
theorem ownG:ownKnob prog.godebug=none:=by kernel_rfl
theorem gL (os:Os) (st:os.Started) (H:Type) (enc:TypeId×Value→H) (F:Stop.Interp) :
  ReturnsInHanded {} Tryz.checked os 10 .any ((OpenSpec.ofChange Rows.growingSpec).preRow enc prog f10 Rows.growingRow.domain false Rows.growingRow.laid) (((OpenSpec.ofChange Rows.growingSpec).at F).post enc prog f10 false true false false):=by
 obtain ⟨pl,hx⟩:=growing_reads os enc
 refine returnsInHanded_of_row (C:=Tryz.checked) (s:=OpenSpec.ofChange Rows.growingSpec) ownG st (by kernel_rfl) func10
  (witness_row_at (enc:=enc) (C:=Tryz.checked) false (laidG os) #[.int .i64 0,.slice none 0 0,.slice none 0 0,.agg #[.int .i64 0,.slice none 0 0]] rfl (by kernel_rfl) (by kernel_rfl) (by kernel_rfl)
   (OpenSpec.preRow_of_cond 8 hx (by kernel_rfl) (fun k hk=>by cases hk) (by kernel_rfl) (laidG_met os))) ?_
 intro W base ar ds gs bf hv hW _ _ hsz _ _ _;exact growing_contract H enc W base ar ds gs bf hv hW hsz
theorem gS:Rows.GrowingSaid:=
 OpenClaim.holds_of_cond 10 f10 rfl rfl rfl rfl rfl rfl rfl ⟨rfl,rfl,rfl,rfl,rfl⟩ rfl rfl rfl rfl rfl (by kernel_rfl) func10 growing_facts
  (of_decide_eq_true (by kernel_rfl)) (by unfold Func.isWrapper;first | (rw [if_pos (by decide +kernel)];kernel_rfl) | (rw [if_neg (by decide +kernel)];exact ⟨rfl,rfl⟩))
  (fun os st H enc _ F=>by rw [OpenClaim.pre_eq_preRow];exact gL os st H enc F)
theorem growing_card:Rows.GrowingCardSaid:=
 Claim7.holds_tied_plain_at .later [] _ _ _ _ gS (fun _ h=>by cases h) (by kernel_rfl) (fun _ h=>by cases h) growing_row_tie rfl ⟨rfl,rfl⟩ (by kernel_rfl) rfl growing_plain (by kernel_rfl)
end
end Go.Proofs.YtgjomknpjigkhaaGreatDoor
