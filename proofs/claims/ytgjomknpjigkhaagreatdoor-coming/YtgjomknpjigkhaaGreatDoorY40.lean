import Derived.Test.YtgjomknpjigkhaaGreatDoorY01
import Derived.Test.YtgjomknpjigkhaaGreatDoorY39
namespace Go.Proofs.YtgjomknpjigkhaaGreatDoor
open Go.Proofs.Tryz
set_option maxRecDepth 100000
set_option maxHeartbeats 4000000
section
open Go.ChangeShapes Go.WideShapes Go.ChangeAt Go.RowKit
theorem ownG:ownKnob prog.godebug=none:=by kernel_rfl
theorem QV (os:Os) (started:os.Started) (H:Type) (enc:TypeId×Value→H) (F:Stop.Interp) :
  ReturnsInHanded {} Tryz.checked os 9 .any ((OpenSpec.ofChange Rows.comingSpec).preRow enc prog f9 Rows.comingRow.domain false Rows.comingRow.laid) (((OpenSpec.ofChange Rows.comingSpec).at F).post enc prog f9 false true false false):=by
 obtain ⟨places,hx⟩:=Sp os enc
 refine returnsInHanded_of_row (C:=Tryz.checked) (s:=OpenSpec.ofChange Rows.comingSpec) ownG started (by kernel_rfl) func9
  (witness_row_at (enc:=enc) (C:=Tryz.checked) false (dA os) #[.int .i64 0,.slice none 0 0,.slice none 0 0,.slice none 0 0] rfl (by kernel_rfl) (by kernel_rfl) (by kernel_rfl)
   (OpenSpec.preRow_of_cond 8 hx (by kernel_rfl) (fun k hk=>by cases hk) (by kernel_rfl) (ZP os))) ?_
 intro W base args ds gs before hval hW _ _ hsz _ _ _;exact N8 H enc W base args ds gs before hval hW hsz
theorem VD:Rows.ComingSaid:=
 OpenClaim.holds_of_cond 9 f9 rfl rfl rfl rfl rfl rfl rfl ⟨rfl,rfl,rfl,rfl,rfl⟩ rfl rfl rfl rfl rfl (by kernel_rfl) func9 Sr
  (of_decide_eq_true (by kernel_rfl)) (by unfold Func.isWrapper;first | (rw [if_pos (by decide +kernel)];kernel_rfl) | (rw [if_neg (by decide +kernel)];exact ⟨rfl,rfl⟩))
  (fun os started H enc _ F=>by rw [OpenClaim.pre_eq_preRow];exact QV os started H enc F)
theorem coming_card:Rows.ComingCardSaid:=
 Claim7.holds_tied_plain_at .later [] _ _ _ _ VD (fun _ h=>by cases h) (by kernel_rfl) (fun _ h=>by cases h) coming_row_tie rfl ⟨rfl,rfl⟩ (by kernel_rfl) rfl Sq (by kernel_rfl)
end
end Go.Proofs.YtgjomknpjigkhaaGreatDoor
