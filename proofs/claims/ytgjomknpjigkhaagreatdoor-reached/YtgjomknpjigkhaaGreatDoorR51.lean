import Derived.Test.YtgjomknpjigkhaaGreatDoorR01
import Derived.Test.YtgjomknpjigkhaaGreatDoorR50
namespace Go.Proofs.YtgjomknpjigkhaaGreatDoor
section
open Go.ChangeShapes Go.WideShapes Go.ChangeAt Go.RowKit
theorem ownR:ownKnob Tryz.prog.godebug = none:=by kernel_rfl
set_option maxRecDepth 100000 in
theorem reached_lifted (os:Os) (started:os.Started) (H:Type) (enc:TypeId × Value→H) (F:Stop.Interp) :
  ReturnsInHanded {} Tryz.checked os 11 .any ((OpenSpec.ofChange Rows.reachedSpec).preRow enc Tryz.prog Tryz.f11 Rows.reachedRow.domain false Rows.reachedRow.laid) (((OpenSpec.ofChange Rows.reachedSpec).at F).post enc Tryz.prog Tryz.f11 false true false false):=by
 obtain ⟨places,hx⟩:=reached_reads os enc
 refine returnsInHanded_of_row (C:=Tryz.checked) (s:=OpenSpec.ofChange Rows.reachedSpec) ownR started (by kernel_rfl) Tryz.func11
  (witness_row_at (enc:=enc) (C:=Tryz.checked) false (laidR os) #[.int .i64 0,.slice none 0 0] rfl (by kernel_rfl) (by kernel_rfl) (by kernel_rfl)
   (OpenSpec.preRow_of_cond 8 hx (by kernel_rfl) (fun k hk=>by cases hk) (by kernel_rfl) (laidR_met os))) ?_
 intro W base args ds gs before hval hW _ _ _ _ _ _
 exact reached_contract H enc W base args ds gs before hval hW
theorem reached_said:Rows.ReachedSaid:=
 OpenClaim.holds_of_cond 11 Tryz.f11 rfl rfl rfl rfl rfl rfl rfl ⟨rfl,rfl,rfl,rfl,rfl⟩ rfl rfl rfl rfl rfl (by kernel_rfl) Tryz.func11 reached_facts
  (of_decide_eq_true (by kernel_rfl)) (by unfold Func.isWrapper;first | (rw [if_pos (by decide +kernel)];kernel_rfl) | (rw [if_neg (by decide +kernel)];exact ⟨rfl,rfl⟩))
  (fun os started H enc _ F=>by rw [OpenClaim.pre_eq_preRow];exact reached_lifted os started H enc F)
theorem reached_card:Rows.ReachedCardSaid:=
 Claim7.holds_tied_plain_at .later [] _ _ _ _ reached_said (fun _ h=>by cases h) (by kernel_rfl) (fun _ h=>by cases h) reached_row_tie rfl ⟨rfl,rfl⟩ (by kernel_rfl) rfl reached_plain (by kernel_rfl)
end
end Go.Proofs.YtgjomknpjigkhaaGreatDoor
