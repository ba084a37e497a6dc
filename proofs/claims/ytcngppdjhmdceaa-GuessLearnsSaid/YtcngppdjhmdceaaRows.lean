/-
  No cell of these rows narrows 'for every input' (looked for: loops, veiled, ifaces, maps, wideKeys, modest, calm, conditions, laid).
  DERIVED. THE GIVEN ROWS OF THIS SEAT. 5 by the template 'for every input the law returns true; each argument reads behind the call as it read before'; 0 by the template 'total and deterministic' (their statements: YtcngppdjhmdceaaTotals.lean).
  GIVEN WITH THE SEED: the statements are not yours to turn. If you find one false, say at which input.
  Laid BY PROGRAM, IN A SANDBOX (cutbox-rows.mjs): the forced cells as the released guide's own fill.sh prints them over the translation 38ec53ee1dae0a12… (all of the seat's roots in one cut). By AI agents, Wed Nov 11 2026. No macro, syntax, notation, axiom, sorry.
-/
import Derived.Test.YtcngppdjhmdceaaChecked
import GoSem.Claim
import GoSem.ClaimJoined
import GoSem.ClaimMapViews
import Derived.JoinedTies
import Derived.KernelRfl
namespace Go.Proofs.Ytcngppdjhmdceaa
/- THE CELL 'sum', in the pinned program and in every row, IS THE sha256 OF THE DUMP (.gsa) THAT YtcngppdjhmdceaaProg.lean LOADS. Nothing in Lean hashes anything: it is a label: what it is worth is what the hold of that sum in a sandbox is worth. -/
noncomputable def Try.pinned : Pinned := { name := "ytcngppdjhmdceaa", sum := "38ec53ee1dae0a12dc29cb1998b926cea09501fb655cc8a2948e28399cc9c8a4", checked := Try.checked }
namespace Rows
def none {H : Type} : Left H := { results := [], args := [] }

/-- 'valiselaw05.GuessSteps': WHATEVER THE INPUT: true; the input reads as it did. -/
def guessStepsSpec : ChangeSpec := { name := "guessSteps", fn := fun _ => fun
  | [d1, d2, d3] => { results := [.lit (.bool true)], args := [d1, d2, d3] }
  | _ => none }
def guessStepsRow : OpenClaim := { program := "ytcngppdjhmdceaa", sum := "38ec53ee1dae0a12dc29cb1998b926cea09501fb655cc8a2948e28399cc9c8a4", func := "valise/valiselaw05.GuessSteps", spec := "guessSteps", apart := false }
def GuessStepsSaid : Prop := guessStepsRow.holds Try.pinned (OpenSpec.ofChange guessStepsSpec)

/-- ITS FALSE NEIGHBOUR: 'it returns false'. Refute it at one input. -/
def guessStepsWrong : ChangeSpec := { name := "guessSteps", fn := fun _ => fun
  | [d1, d2, d3] => { results := [.lit (.bool false)], args := [d1, d2, d3] }
  | _ => none }
def GuessStepsWrongFalsely : Prop := guessStepsRow.holds Try.pinned (OpenSpec.ofChange guessStepsWrong)

/-- 'valiselaw05.GuessLearns': WHATEVER THE INPUT: true; the input reads as it did. -/
def guessLearnsSpec : ChangeSpec := { name := "guessLearns", fn := fun _ => fun
  | [d1, d2, d3] => { results := [.lit (.bool true)], args := [d1, d2, d3] }
  | _ => none }
def guessLearnsRow : OpenClaim := { program := "ytcngppdjhmdceaa", sum := "38ec53ee1dae0a12dc29cb1998b926cea09501fb655cc8a2948e28399cc9c8a4", func := "valise/valiselaw05.GuessLearns", spec := "guessLearns", apart := false }
def GuessLearnsSaid : Prop := guessLearnsRow.holds Try.pinned (OpenSpec.ofChange guessLearnsSpec)

/-- ITS FALSE NEIGHBOUR: 'it returns false'. Refute it at one input. -/
def guessLearnsWrong : ChangeSpec := { name := "guessLearns", fn := fun _ => fun
  | [d1, d2, d3] => { results := [.lit (.bool false)], args := [d1, d2, d3] }
  | _ => none }
def GuessLearnsWrongFalsely : Prop := guessLearnsRow.holds Try.pinned (OpenSpec.ofChange guessLearnsWrong)

/-- 'valiselaw05.GuessTrend': WHATEVER THE INPUT: true; the input reads as it did. -/
def guessTrendSpec : ChangeSpec := { name := "guessTrend", fn := fun _ => fun
  | [d1, d2, d3, d4] => { results := [.lit (.bool true)], args := [d1, d2, d3, d4] }
  | _ => none }
def guessTrendRow : OpenClaim := { program := "ytcngppdjhmdceaa", sum := "38ec53ee1dae0a12dc29cb1998b926cea09501fb655cc8a2948e28399cc9c8a4", func := "valise/valiselaw05.GuessTrend", spec := "guessTrend", apart := false }
def GuessTrendSaid : Prop := guessTrendRow.holds Try.pinned (OpenSpec.ofChange guessTrendSpec)

/-- ITS FALSE NEIGHBOUR: 'it returns false'. Refute it at one input. -/
def guessTrendWrong : ChangeSpec := { name := "guessTrend", fn := fun _ => fun
  | [d1, d2, d3, d4] => { results := [.lit (.bool false)], args := [d1, d2, d3, d4] }
  | _ => none }
def GuessTrendWrongFalsely : Prop := guessTrendRow.holds Try.pinned (OpenSpec.ofChange guessTrendWrong)

/-- 'valiselaw05.GuessMany': WHATEVER THE INPUT: true; the input reads as it did. -/
def guessManySpec : ChangeSpec := { name := "guessMany", fn := fun _ => fun
  | [d1, d2] => { results := [.lit (.bool true)], args := [d1, d2] }
  | _ => none }
def guessManyRow : OpenClaim := { program := "ytcngppdjhmdceaa", sum := "38ec53ee1dae0a12dc29cb1998b926cea09501fb655cc8a2948e28399cc9c8a4", func := "valise/valiselaw05.GuessMany", spec := "guessMany", apart := false }
def GuessManySaid : Prop := guessManyRow.holds Try.pinned (OpenSpec.ofChange guessManySpec)

/-- ITS FALSE NEIGHBOUR: 'it returns false'. Refute it at one input. -/
def guessManyWrong : ChangeSpec := { name := "guessMany", fn := fun _ => fun
  | [d1, d2] => { results := [.lit (.bool false)], args := [d1, d2] }
  | _ => none }
def GuessManyWrongFalsely : Prop := guessManyRow.holds Try.pinned (OpenSpec.ofChange guessManyWrong)

/-- 'valiselaw05.GuessNil': WHATEVER THE INPUT: true; the input reads as it did. -/
def guessNilSpec : ChangeSpec := { name := "guessNil", fn := fun _ => fun
  | [d1, d2, d3, d4] => { results := [.lit (.bool true)], args := [d1, d2, d3, d4] }
  | _ => none }
def guessNilRow : OpenClaim := { program := "ytcngppdjhmdceaa", sum := "38ec53ee1dae0a12dc29cb1998b926cea09501fb655cc8a2948e28399cc9c8a4", func := "valise/valiselaw05.GuessNil", spec := "guessNil", apart := false }
def GuessNilSaid : Prop := guessNilRow.holds Try.pinned (OpenSpec.ofChange guessNilSpec)

/-- ITS FALSE NEIGHBOUR: 'it returns false'. Refute it at one input. -/
def guessNilWrong : ChangeSpec := { name := "guessNil", fn := fun _ => fun
  | [d1, d2, d3, d4] => { results := [.lit (.bool false)], args := [d1, d2, d3, d4] }
  | _ => none }
def GuessNilWrongFalsely : Prop := guessNilRow.holds Try.pinned (OpenSpec.ofChange guessNilWrong)

/- THE SECOND FORM. 'bulk': how many values and letters a reading holds, each counted each time it is reached (what is shared counts as often as it is met; a slice's spare places count too). A statement '..UptoSaid' is the law's where the arguments, and the package variables that the reading takes, are together of bulk at most 1048576: NARROWER than '..Said'. Prove '..Said' where nothing that the law and all that it calls make is longer than what came in: it says more and counts as full. Else prove '..UptoSaid'. A law counts once. -/
mutual
def uptoBulk {H : Type} : DataW H → Nat
  | .lit (.string bytes) => bytes.length + 1
  | .lit _ => 1
  | .nil => 1
  | .ptr d => uptoBulk d + 1
  | .slice elems spare => uptoBulkAll elems + uptoBulkAll spare + 1
  | .agg parts => uptoBulkAll parts + 1
  | .iface _ d => uptoBulk d + 1
  | .map entries => uptoBulkEntries entries + 1
  | .held _ => 1
def uptoBulkAll {H : Type} : List (DataW H) → Nat
  | [] => 0
  | d :: r => uptoBulk d + uptoBulkAll r
def uptoBulkEntries {H : Type} : List (Lit × DataW H) → Nat
  | [] => 0
  | x :: r => uptoBulkEntry x + uptoBulkEntries r
def uptoBulkEntry {H : Type} : Lit × DataW H → Nat
  | (.string bytes, d) => bytes.length + uptoBulk d + 1
  | (_, d) => uptoBulk d + 1
 end
def uptoSmall : (H : Type) → List (DataW H) → Bool := fun _ ds => decide (uptoBulkAll ds ≤ 1048576)
def OpenSpec.upto (s : _root_.Go.ChangeSpec) : _root_.Go.OpenSpec := { _root_.Go.OpenSpec.ofChange s with cond := some uptoSmall }

/-- 'valiselaw05.GuessSteps', WHERE WHAT IT READS IS OF BULK AT MOST 1048576: true; the input reads as it did. -/
def guessStepsUptoRow : OpenClaim := { program := "ytcngppdjhmdceaa", sum := "38ec53ee1dae0a12dc29cb1998b926cea09501fb655cc8a2948e28399cc9c8a4", func := "valise/valiselaw05.GuessSteps", spec := "guessSteps", apart := false, narrowed := true }
def GuessStepsUptoSaid : Prop := guessStepsUptoRow.holds Try.pinned (OpenSpec.upto guessStepsSpec)

/-- 'valiselaw05.GuessLearns', WHERE WHAT IT READS IS OF BULK AT MOST 1048576: true; the input reads as it did. -/
def guessLearnsUptoRow : OpenClaim := { program := "ytcngppdjhmdceaa", sum := "38ec53ee1dae0a12dc29cb1998b926cea09501fb655cc8a2948e28399cc9c8a4", func := "valise/valiselaw05.GuessLearns", spec := "guessLearns", apart := false, narrowed := true }
def GuessLearnsUptoSaid : Prop := guessLearnsUptoRow.holds Try.pinned (OpenSpec.upto guessLearnsSpec)

/-- 'valiselaw05.GuessTrend', WHERE WHAT IT READS IS OF BULK AT MOST 1048576: true; the input reads as it did. -/
def guessTrendUptoRow : OpenClaim := { program := "ytcngppdjhmdceaa", sum := "38ec53ee1dae0a12dc29cb1998b926cea09501fb655cc8a2948e28399cc9c8a4", func := "valise/valiselaw05.GuessTrend", spec := "guessTrend", apart := false, narrowed := true }
def GuessTrendUptoSaid : Prop := guessTrendUptoRow.holds Try.pinned (OpenSpec.upto guessTrendSpec)

/-- 'valiselaw05.GuessMany', WHERE WHAT IT READS IS OF BULK AT MOST 1048576: true; the input reads as it did. -/
def guessManyUptoRow : OpenClaim := { program := "ytcngppdjhmdceaa", sum := "38ec53ee1dae0a12dc29cb1998b926cea09501fb655cc8a2948e28399cc9c8a4", func := "valise/valiselaw05.GuessMany", spec := "guessMany", apart := false, narrowed := true }
def GuessManyUptoSaid : Prop := guessManyUptoRow.holds Try.pinned (OpenSpec.upto guessManySpec)

/-- 'valiselaw05.GuessNil', WHERE WHAT IT READS IS OF BULK AT MOST 1048576: true; the input reads as it did. -/
def guessNilUptoRow : OpenClaim := { program := "ytcngppdjhmdceaa", sum := "38ec53ee1dae0a12dc29cb1998b926cea09501fb655cc8a2948e28399cc9c8a4", func := "valise/valiselaw05.GuessNil", spec := "guessNil", apart := false, narrowed := true }
def GuessNilUptoSaid : Prop := guessNilUptoRow.holds Try.pinned (OpenSpec.upto guessNilSpec)

end Rows
end Go.Proofs.Ytcngppdjhmdceaa
