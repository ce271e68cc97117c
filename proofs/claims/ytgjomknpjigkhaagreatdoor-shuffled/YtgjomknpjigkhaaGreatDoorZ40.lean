import Derived.Test.YtgjomknpjigkhaaGreatDoorZ01
import Derived.Test.YtgjomknpjigkhaaGreatDoorZ39
namespace Go.Proofs.YtgjomknpjigkhaaGreatDoor
open Go.Proofs.Tryz
set_option maxRecDepth 100000
set_option maxHeartbeats 4000000
section
open Go.ChangeShapes Go.WideShapes Go.ChangeAt Go.RowKit
theorem ownG:ownKnob prog.godebug=none:=by kernel_rfl
theorem Ns (os:Os) (started:os.Started) (H:Type) (enc:TypeId×Value→H) (F:Stop.Interp) :
  ReturnsInHanded {} Tryz.checked os 8 .any ((OpenSpec.ofChange Rows.shuffledSpec).preRow enc prog f8 Rows.shuffledRow.domain false Rows.shuffledRow.laid) (((OpenSpec.ofChange Rows.shuffledSpec).at F).post enc prog f8 false true false false):=by
 obtain ⟨places,hx⟩:=OS os enc
 refine returnsInHanded_of_row (C:=Tryz.checked) (s:=OpenSpec.ofChange Rows.shuffledSpec) ownG started (by kernel_rfl) func8
  (witness_row_at (enc:=enc) (C:=Tryz.checked) false (cP os) #[.int .i64 0,.slice none 0 0,.slice none 0 0] rfl (by kernel_rfl) (by kernel_rfl) (by kernel_rfl)
   (OpenSpec.preRow_of_cond 8 hx (by kernel_rfl) (fun k hk=>by cases hk) (by kernel_rfl) (ZC os))) ?_
 intro W base args ds gs before hval hW _ _ hsz _ _ _;exact Ly H enc W base args ds gs before hval hW hsz
theorem Pt:Rows.ShuffledSaid:=
 OpenClaim.holds_of_cond 8 f8 rfl rfl rfl rfl rfl rfl rfl ⟨rfl,rfl,rfl,rfl,rfl⟩ rfl rfl rfl rfl rfl (by kernel_rfl) func8 OU
  (of_decide_eq_true (by kernel_rfl)) (by unfold Func.isWrapper;first | (rw [if_pos (by decide +kernel)];kernel_rfl) | (rw [if_neg (by decide +kernel)];exact ⟨rfl,rfl⟩))
  (fun os started H enc _ F=>by rw [OpenClaim.pre_eq_preRow];exact Ns os started H enc F)
theorem shuffled_card:Rows.ShuffledCardSaid:=
 Claim7.holds_tied_plain_at .later [] _ _ _ _ Pt (fun _ h=>by cases h) (by kernel_rfl) (fun _ h=>by cases h) shuffled_row_tie rfl ⟨rfl,rfl⟩ (by kernel_rfl) rfl OT (by kernel_rfl)
end
end Go.Proofs.YtgjomknpjigkhaaGreatDoor
