import Derived.Test.YtkfjafndplmdkaaGreatXD
import Derived.Test.YtkfjafndplmdkaaGreatXE
namespace Go.Proofs.YtkfjafndplmdkaaGreat
theorem crossed_walk (one two : ByteArray) (scan apart : Bool) (w : World) : Calls Tryz.prog 8 #[.string one, .string two, .bool scan, .bool apart] w fun e w' => e = .returned (.bool true) ∧ Chg nobody w w' := by
  by_cases h1 : 7 < one.size <;> by_cases h2 : 7 < two.size <;> cases scan <;> cases apart
  · exact crossed_fftt one two w h1 h2
  · exact crossed_fttt one two w h1 h2
  · exact crossed_tftt one two w h1 h2
  · exact crossed_tttt one two w h1 h2
  · exact crossed_fftf one two w h1 h2
  · exact crossed_fttf one two w h1 h2
  · exact crossed_tftf one two w h1 h2
  · exact crossed_tttf one two w h1 h2
  · exact crossed_ffft one two w h1 h2
  · exact crossed_ftft one two w h1 h2
  · exact crossed_tfft one two w h1 h2
  · exact crossed_ttft one two w h1 h2
  · exact crossed_ffff one two w h1 h2
  · exact crossed_ftff one two w h1 h2
  · exact crossed_tfff one two w h1 h2
  · exact crossed_ttff one two w h1 h2
end Go.Proofs.YtkfjafndplmdkaaGreat
