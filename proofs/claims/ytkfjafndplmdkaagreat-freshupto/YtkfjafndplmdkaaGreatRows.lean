/-
  No cell of these rows narrows 'for every input' (looked for: loops, veiled, ifaces, maps, wideKeys, modest, calm, conditions, laid).
  DERIVED. THE GIVEN ROWS OF THIS SEAT. 11 by the template 'for every input the law returns true; each argument reads behind the call as it read before'; 0 by the template 'total and deterministic' (their statements: YtkfjafndplmdkaaGreatTotals.lean).
  GIVEN WITH THE SEED: the statements are not yours to turn. If you find one false, say at which input.
  Laid BY PROGRAM, IN A SANDBOX (cutbox-rows.mjs): the forced cells as the released guide's own fill.sh prints them over the translation 9eff97ce559d0af1… (all of the seat's roots in one cut). By AI agents, Wed Nov 11 2026. No macro, syntax, notation, axiom, sorry.
-/
import Derived.Test.YtkfjafndplmdkaaGreatChecked
import GoSem.Claim
import GoSem.ClaimJoined
import GoSem.ClaimMapViews
import Derived.JoinedTies
import Derived.KernelRfl
namespace Go.Proofs.YtkfjafndplmdkaaGreat
/- THE CELL 'sum', in the pinned program and in every row, IS THE sha256 OF THE DUMP (.gsa) THAT YtkfjafndplmdkaaGreatProg.lean LOADS. Nothing in Lean hashes anything: it is a label: what it is worth is what the hold of that sum in a sandbox is worth. -/
noncomputable def Tryz.pinned : Pinned := { name := "ytkfjafndplmdkaagreat", sum := "9eff97ce559d0af1ac797bd36fd406d7d0510f666e138bed0560f444007fbae7", checked := Tryz.checked }
namespace Rows
def none {H : Type} : Left H := { results := [], args := [] }

/-- 'concordlaw.Reads': WHATEVER THE INPUT: true; the input reads as it did. -/
def readsSpec : ChangeSpec := { name := "reads", fn := fun _ => fun
  | [d] => { results := [.lit (.bool true)], args := [d] }
  | _ => none }
def readsRow : OpenClaim := { program := "ytkfjafndplmdkaagreat", sum := "9eff97ce559d0af1ac797bd36fd406d7d0510f666e138bed0560f444007fbae7", func := "concord/concordlaw.Reads", spec := "reads", unfollowed := true, recurses := true, apart := false }
def ReadsSaid : Prop := readsRow.holds Tryz.pinned (OpenSpec.ofChange readsSpec)

/-- ITS FALSE NEIGHBOUR: 'it returns false'. Refute it at one input. -/
def readsWrong : ChangeSpec := { name := "reads", fn := fun _ => fun
  | [d] => { results := [.lit (.bool false)], args := [d] }
  | _ => none }
def ReadsWrongFalsely : Prop := readsRow.holds Tryz.pinned (OpenSpec.ofChange readsWrong)

/-- 'concordkeep.Still': WHATEVER THE INPUT: true; the input reads as it did. -/
def stillSpec : ChangeSpec := { name := "still", fn := fun _ => fun
  | [d1, d2, d3, d4] => { results := [.lit (.bool true)], args := [d1, d2, d3, d4] }
  | _ => none }
def stillRow : OpenClaim := { program := "ytkfjafndplmdkaagreat", sum := "9eff97ce559d0af1ac797bd36fd406d7d0510f666e138bed0560f444007fbae7", func := "concord/concordkeep.Still", spec := "still", unfollowed := true, recurses := true, apart := false }
def StillSaid : Prop := stillRow.holds Tryz.pinned (OpenSpec.ofChange stillSpec)

/-- ITS FALSE NEIGHBOUR: 'it returns false'. Refute it at one input. -/
def stillWrong : ChangeSpec := { name := "still", fn := fun _ => fun
  | [d1, d2, d3, d4] => { results := [.lit (.bool false)], args := [d1, d2, d3, d4] }
  | _ => none }
def StillWrongFalsely : Prop := stillRow.holds Tryz.pinned (OpenSpec.ofChange stillWrong)

/-- 'concordkeep.Prefix': WHATEVER THE INPUT: true; the input reads as it did. -/
def prefixSpec : ChangeSpec := { name := "prefix", fn := fun _ => fun
  | [d1, d2] => { results := [.lit (.bool true)], args := [d1, d2] }
  | _ => none }
def prefixRow : OpenClaim := { program := "ytkfjafndplmdkaagreat", sum := "9eff97ce559d0af1ac797bd36fd406d7d0510f666e138bed0560f444007fbae7", func := "concord/concordkeep.Prefix", spec := "prefix", unfollowed := true, recurses := true, apart := false }
def PrefixSaid : Prop := prefixRow.holds Tryz.pinned (OpenSpec.ofChange prefixSpec)

/-- ITS FALSE NEIGHBOUR: 'it returns false'. Refute it at one input. -/
def prefixWrong : ChangeSpec := { name := "prefix", fn := fun _ => fun
  | [d1, d2] => { results := [.lit (.bool false)], args := [d1, d2] }
  | _ => none }
def PrefixWrongFalsely : Prop := prefixRow.holds Tryz.pinned (OpenSpec.ofChange prefixWrong)

/-- 'concordlaw.Commits': WHATEVER THE INPUT: true; the input reads as it did. -/
def commitsSpec : ChangeSpec := { name := "commits", fn := fun _ => fun
  | [d] => { results := [.lit (.bool true)], args := [d] }
  | _ => none }
def commitsRow : OpenClaim := { program := "ytkfjafndplmdkaagreat", sum := "9eff97ce559d0af1ac797bd36fd406d7d0510f666e138bed0560f444007fbae7", func := "concord/concordlaw.Commits", spec := "commits", unfollowed := true, recurses := true, apart := false }
def CommitsSaid : Prop := commitsRow.holds Tryz.pinned (OpenSpec.ofChange commitsSpec)

/-- ITS FALSE NEIGHBOUR: 'it returns false'. Refute it at one input. -/
def commitsWrong : ChangeSpec := { name := "commits", fn := fun _ => fun
  | [d] => { results := [.lit (.bool false)], args := [d] }
  | _ => none }
def CommitsWrongFalsely : Prop := commitsRow.holds Tryz.pinned (OpenSpec.ofChange commitsWrong)

/-- 'concordkeep.Serial': WHATEVER THE INPUT: true; the input reads as it did. -/
def serialSpec : ChangeSpec := { name := "serial", fn := fun _ => fun
  | [d] => { results := [.lit (.bool true)], args := [d] }
  | _ => none }
def serialRow : OpenClaim := { program := "ytkfjafndplmdkaagreat", sum := "9eff97ce559d0af1ac797bd36fd406d7d0510f666e138bed0560f444007fbae7", func := "concord/concordkeep.Serial", spec := "serial", unfollowed := true, recurses := true, apart := false }
def SerialSaid : Prop := serialRow.holds Tryz.pinned (OpenSpec.ofChange serialSpec)

/-- ITS FALSE NEIGHBOUR: 'it returns false'. Refute it at one input. -/
def serialWrong : ChangeSpec := { name := "serial", fn := fun _ => fun
  | [d] => { results := [.lit (.bool false)], args := [d] }
  | _ => none }
def SerialWrongFalsely : Prop := serialRow.holds Tryz.pinned (OpenSpec.ofChange serialWrong)

/-- 'concordkeep.Crossed': WHATEVER THE INPUT: true; the input reads as it did. -/
def crossedSpec : ChangeSpec := { name := "crossed", fn := fun _ => fun
  | [d1, d2, d3, d4] => { results := [.lit (.bool true)], args := [d1, d2, d3, d4] }
  | _ => none }
def crossedRow : OpenClaim := { program := "ytkfjafndplmdkaagreat", sum := "9eff97ce559d0af1ac797bd36fd406d7d0510f666e138bed0560f444007fbae7", func := "concord/concordkeep.Crossed", spec := "crossed", unfollowed := true, recurses := true, apart := false }
def CrossedSaid : Prop := crossedRow.holds Tryz.pinned (OpenSpec.ofChange crossedSpec)

/-- ITS FALSE NEIGHBOUR: 'it returns false'. Refute it at one input. -/
def crossedWrong : ChangeSpec := { name := "crossed", fn := fun _ => fun
  | [d1, d2, d3, d4] => { results := [.lit (.bool false)], args := [d1, d2, d3, d4] }
  | _ => none }
def CrossedWrongFalsely : Prop := crossedRow.holds Tryz.pinned (OpenSpec.ofChange crossedWrong)

/-- 'concordlaw.Runs': WHATEVER THE INPUT: true; the input reads as it did. -/
def runsSpec : ChangeSpec := { name := "runs", fn := fun _ => fun
  | [d] => { results := [.lit (.bool true)], args := [d] }
  | _ => none }
def runsRow : OpenClaim := { program := "ytkfjafndplmdkaagreat", sum := "9eff97ce559d0af1ac797bd36fd406d7d0510f666e138bed0560f444007fbae7", func := "concord/concordlaw.Runs", spec := "runs", unfollowed := true, recurses := true, apart := false }
def RunsSaid : Prop := runsRow.holds Tryz.pinned (OpenSpec.ofChange runsSpec)

/-- ITS FALSE NEIGHBOUR: 'it returns false'. Refute it at one input. -/
def runsWrong : ChangeSpec := { name := "runs", fn := fun _ => fun
  | [d] => { results := [.lit (.bool false)], args := [d] }
  | _ => none }
def RunsWrongFalsely : Prop := runsRow.holds Tryz.pinned (OpenSpec.ofChange runsWrong)

/-- 'concordkeep.Sure': WHATEVER THE INPUT: true; the input reads as it did. -/
def sureSpec : ChangeSpec := { name := "sure", fn := fun _ => fun
  | [d1, d2, d3] => { results := [.lit (.bool true)], args := [d1, d2, d3] }
  | _ => none }
def sureRow : OpenClaim := { program := "ytkfjafndplmdkaagreat", sum := "9eff97ce559d0af1ac797bd36fd406d7d0510f666e138bed0560f444007fbae7", func := "concord/concordkeep.Sure", spec := "sure", unfollowed := true, recurses := true, apart := false }
def SureSaid : Prop := sureRow.holds Tryz.pinned (OpenSpec.ofChange sureSpec)

/-- ITS FALSE NEIGHBOUR: 'it returns false'. Refute it at one input. -/
def sureWrong : ChangeSpec := { name := "sure", fn := fun _ => fun
  | [d1, d2, d3] => { results := [.lit (.bool false)], args := [d1, d2, d3] }
  | _ => none }
def SureWrongFalsely : Prop := sureRow.holds Tryz.pinned (OpenSpec.ofChange sureWrong)

/-- 'concordkeep.Fenced': WHATEVER THE INPUT: true; the input reads as it did. -/
def fencedSpec : ChangeSpec := { name := "fenced", fn := fun _ => fun
  | [d] => { results := [.lit (.bool true)], args := [d] }
  | _ => none }
def fencedRow : OpenClaim := { program := "ytkfjafndplmdkaagreat", sum := "9eff97ce559d0af1ac797bd36fd406d7d0510f666e138bed0560f444007fbae7", func := "concord/concordkeep.Fenced", spec := "fenced", unfollowed := true, recurses := true, apart := false }
def FencedSaid : Prop := fencedRow.holds Tryz.pinned (OpenSpec.ofChange fencedSpec)

/-- ITS FALSE NEIGHBOUR: 'it returns false'. Refute it at one input. -/
def fencedWrong : ChangeSpec := { name := "fenced", fn := fun _ => fun
  | [d] => { results := [.lit (.bool false)], args := [d] }
  | _ => none }
def FencedWrongFalsely : Prop := fencedRow.holds Tryz.pinned (OpenSpec.ofChange fencedWrong)

/-- 'concordkeep.Cleaned': WHATEVER THE INPUT: true; the input reads as it did. -/
def cleanedSpec : ChangeSpec := { name := "cleaned", fn := fun _ => fun
  | [d1, d2] => { results := [.lit (.bool true)], args := [d1, d2] }
  | _ => none }
def cleanedRow : OpenClaim := { program := "ytkfjafndplmdkaagreat", sum := "9eff97ce559d0af1ac797bd36fd406d7d0510f666e138bed0560f444007fbae7", func := "concord/concordkeep.Cleaned", spec := "cleaned", unfollowed := true, recurses := true, apart := false }
def CleanedSaid : Prop := cleanedRow.holds Tryz.pinned (OpenSpec.ofChange cleanedSpec)

/-- ITS FALSE NEIGHBOUR: 'it returns false'. Refute it at one input. -/
def cleanedWrong : ChangeSpec := { name := "cleaned", fn := fun _ => fun
  | [d1, d2] => { results := [.lit (.bool false)], args := [d1, d2] }
  | _ => none }
def CleanedWrongFalsely : Prop := cleanedRow.holds Tryz.pinned (OpenSpec.ofChange cleanedWrong)

/-- 'concordlaw.Fresh': WHATEVER THE INPUT: true; the input reads as it did. -/
def freshSpec : ChangeSpec := { name := "fresh", fn := fun _ => fun
  | [d1, d2] => { results := [.lit (.bool true)], args := [d1, d2] }
  | _ => none }
def freshRow : OpenClaim := { program := "ytkfjafndplmdkaagreat", sum := "9eff97ce559d0af1ac797bd36fd406d7d0510f666e138bed0560f444007fbae7", func := "concord/concordlaw.Fresh", spec := "fresh", unfollowed := true, recurses := true, apart := false }
def FreshSaid : Prop := freshRow.holds Tryz.pinned (OpenSpec.ofChange freshSpec)

/-- ITS FALSE NEIGHBOUR: 'it returns false'. Refute it at one input. -/
def freshWrong : ChangeSpec := { name := "fresh", fn := fun _ => fun
  | [d1, d2] => { results := [.lit (.bool false)], args := [d1, d2] }
  | _ => none }
def FreshWrongFalsely : Prop := freshRow.holds Tryz.pinned (OpenSpec.ofChange freshWrong)

/- THE SECOND FORM. 'bulk': how many values and letters a reading holds, each counted each time it is reached (what is shared counts as often as it is met; a slice's spare places count too). A statement '..UptoSaid' is the law's where the arguments, and the package variables that the reading takes, are together of bulk at most 1048576: NARROWER than '..Said'. Prove '..Said' where nothing that the law and all that it calls make is longer than what came in: it says more and counts as full. Else prove '..UptoSaid'. A law counts once. -/
mutual
def uptoBulk {H : Type} : DataW H → Nat
  | .lit (.string bytes) => bytes.length + 1
  | .lit _ => 1
  | .nil => 1
  | .ptr d => uptoBulk d + 1
  | .slice elems spare => uptoBulkAll elems + uptoBulkAll spare + 1
  | .agg parts => uptoBulkAll parts + 1
  | .iface _ d => uptoBulk d + 1
  | .map entries => uptoBulkEntries entries + 1
  | .held _ => 1
def uptoBulkAll {H : Type} : List (DataW H) → Nat
  | [] => 0
  | d :: r => uptoBulk d + uptoBulkAll r
def uptoBulkEntries {H : Type} : List (Lit × DataW H) → Nat
  | [] => 0
  | x :: r => uptoBulkEntry x + uptoBulkEntries r
def uptoBulkEntry {H : Type} : Lit × DataW H → Nat
  | (.string bytes, d) => bytes.length + uptoBulk d + 1
  | (_, d) => uptoBulk d + 1
 end
def uptoSmall : (H : Type) → List (DataW H) → Bool := fun _ ds => decide (uptoBulkAll ds ≤ 1048576)
def OpenSpec.upto (s : _root_.Go.ChangeSpec) : _root_.Go.OpenSpec := { _root_.Go.OpenSpec.ofChange s with cond := some uptoSmall }

/-- 'concordlaw.Reads', WHERE WHAT IT READS IS OF BULK AT MOST 1048576: true; the input reads as it did. -/
def readsUptoRow : OpenClaim := { program := "ytkfjafndplmdkaagreat", sum := "9eff97ce559d0af1ac797bd36fd406d7d0510f666e138bed0560f444007fbae7", func := "concord/concordlaw.Reads", spec := "reads", unfollowed := true, recurses := true, apart := false, narrowed := true }
def ReadsUptoSaid : Prop := readsUptoRow.holds Tryz.pinned (OpenSpec.upto readsSpec)

/-- 'concordkeep.Still', WHERE WHAT IT READS IS OF BULK AT MOST 1048576: true; the input reads as it did. -/
def stillUptoRow : OpenClaim := { program := "ytkfjafndplmdkaagreat", sum := "9eff97ce559d0af1ac797bd36fd406d7d0510f666e138bed0560f444007fbae7", func := "concord/concordkeep.Still", spec := "still", unfollowed := true, recurses := true, apart := false, narrowed := true }
def StillUptoSaid : Prop := stillUptoRow.holds Tryz.pinned (OpenSpec.upto stillSpec)

/-- 'concordkeep.Prefix', WHERE WHAT IT READS IS OF BULK AT MOST 1048576: true; the input reads as it did. -/
def prefixUptoRow : OpenClaim := { program := "ytkfjafndplmdkaagreat", sum := "9eff97ce559d0af1ac797bd36fd406d7d0510f666e138bed0560f444007fbae7", func := "concord/concordkeep.Prefix", spec := "prefix", unfollowed := true, recurses := true, apart := false, narrowed := true }
def PrefixUptoSaid : Prop := prefixUptoRow.holds Tryz.pinned (OpenSpec.upto prefixSpec)

/-- 'concordlaw.Commits', WHERE WHAT IT READS IS OF BULK AT MOST 1048576: true; the input reads as it did. -/
def commitsUptoRow : OpenClaim := { program := "ytkfjafndplmdkaagreat", sum := "9eff97ce559d0af1ac797bd36fd406d7d0510f666e138bed0560f444007fbae7", func := "concord/concordlaw.Commits", spec := "commits", unfollowed := true, recurses := true, apart := false, narrowed := true }
def CommitsUptoSaid : Prop := commitsUptoRow.holds Tryz.pinned (OpenSpec.upto commitsSpec)

/-- 'concordkeep.Serial', WHERE WHAT IT READS IS OF BULK AT MOST 1048576: true; the input reads as it did. -/
def serialUptoRow : OpenClaim := { program := "ytkfjafndplmdkaagreat", sum := "9eff97ce559d0af1ac797bd36fd406d7d0510f666e138bed0560f444007fbae7", func := "concord/concordkeep.Serial", spec := "serial", unfollowed := true, recurses := true, apart := false, narrowed := true }
def SerialUptoSaid : Prop := serialUptoRow.holds Tryz.pinned (OpenSpec.upto serialSpec)

/-- 'concordkeep.Crossed', WHERE WHAT IT READS IS OF BULK AT MOST 1048576: true; the input reads as it did. -/
def crossedUptoRow : OpenClaim := { program := "ytkfjafndplmdkaagreat", sum := "9eff97ce559d0af1ac797bd36fd406d7d0510f666e138bed0560f444007fbae7", func := "concord/concordkeep.Crossed", spec := "crossed", unfollowed := true, recurses := true, apart := false, narrowed := true }
def CrossedUptoSaid : Prop := crossedUptoRow.holds Tryz.pinned (OpenSpec.upto crossedSpec)

/-- 'concordlaw.Runs', WHERE WHAT IT READS IS OF BULK AT MOST 1048576: true; the input reads as it did. -/
def runsUptoRow : OpenClaim := { program := "ytkfjafndplmdkaagreat", sum := "9eff97ce559d0af1ac797bd36fd406d7d0510f666e138bed0560f444007fbae7", func := "concord/concordlaw.Runs", spec := "runs", unfollowed := true, recurses := true, apart := false, narrowed := true }
def RunsUptoSaid : Prop := runsUptoRow.holds Tryz.pinned (OpenSpec.upto runsSpec)

/-- 'concordkeep.Sure', WHERE WHAT IT READS IS OF BULK AT MOST 1048576: true; the input reads as it did. -/
def sureUptoRow : OpenClaim := { program := "ytkfjafndplmdkaagreat", sum := "9eff97ce559d0af1ac797bd36fd406d7d0510f666e138bed0560f444007fbae7", func := "concord/concordkeep.Sure", spec := "sure", unfollowed := true, recurses := true, apart := false, narrowed := true }
def SureUptoSaid : Prop := sureUptoRow.holds Tryz.pinned (OpenSpec.upto sureSpec)

/-- 'concordkeep.Fenced', WHERE WHAT IT READS IS OF BULK AT MOST 1048576: true; the input reads as it did. -/
def fencedUptoRow : OpenClaim := { program := "ytkfjafndplmdkaagreat", sum := "9eff97ce559d0af1ac797bd36fd406d7d0510f666e138bed0560f444007fbae7", func := "concord/concordkeep.Fenced", spec := "fenced", unfollowed := true, recurses := true, apart := false, narrowed := true }
def FencedUptoSaid : Prop := fencedUptoRow.holds Tryz.pinned (OpenSpec.upto fencedSpec)

/-- 'concordkeep.Cleaned', WHERE WHAT IT READS IS OF BULK AT MOST 1048576: true; the input reads as it did. -/
def cleanedUptoRow : OpenClaim := { program := "ytkfjafndplmdkaagreat", sum := "9eff97ce559d0af1ac797bd36fd406d7d0510f666e138bed0560f444007fbae7", func := "concord/concordkeep.Cleaned", spec := "cleaned", unfollowed := true, recurses := true, apart := false, narrowed := true }
def CleanedUptoSaid : Prop := cleanedUptoRow.holds Tryz.pinned (OpenSpec.upto cleanedSpec)

/-- 'concordlaw.Fresh', WHERE WHAT IT READS IS OF BULK AT MOST 1048576: true; the input reads as it did. -/
def freshUptoRow : OpenClaim := { program := "ytkfjafndplmdkaagreat", sum := "9eff97ce559d0af1ac797bd36fd406d7d0510f666e138bed0560f444007fbae7", func := "concord/concordlaw.Fresh", spec := "fresh", unfollowed := true, recurses := true, apart := false, narrowed := true }
def FreshUptoSaid : Prop := freshUptoRow.holds Tryz.pinned (OpenSpec.upto freshSpec)

end Rows
end Go.Proofs.YtkfjafndplmdkaaGreat
