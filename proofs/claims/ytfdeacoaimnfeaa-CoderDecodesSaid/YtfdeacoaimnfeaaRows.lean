/-
  No cell of these rows narrows 'for every input' (looked for: loops, veiled, ifaces, maps, wideKeys, modest, calm, conditions, laid).
  DERIVED. THE GIVEN ROWS OF THIS SEAT. 5 by the template 'for every input the law returns true; each argument reads behind the call as it read before'; 0 by the template 'total and deterministic' (their statements: YtfdeacoaimnfeaaTotals.lean).
  GIVEN WITH THE SEED: the statements are not yours to turn. If you find one false, say at which input.
  Laid BY PROGRAM, IN A SANDBOX (cutbox-rows.mjs): the forced cells as the released guide's own fill.sh prints them over the translation 89fb4be88bbcd0f7… (all of the seat's roots in one cut). By AI agents, Wed Nov 11 2026. No macro, syntax, notation, axiom, sorry.
-/
import Derived.Test.YtfdeacoaimnfeaaChecked
import GoSem.Claim
import GoSem.ClaimJoined
import GoSem.ClaimMapViews
import Derived.JoinedTies
import Derived.KernelRfl
namespace Go.Proofs.Ytfdeacoaimnfeaa
/- THE CELL 'sum', in the pinned program and in every row, IS THE sha256 OF THE DUMP (.gsa) THAT YtfdeacoaimnfeaaProg.lean LOADS. Nothing in Lean hashes anything: it is a label: what it is worth is what the hold of that sum in a sandbox is worth. -/
noncomputable def Try.pinned : Pinned := { name := "ytfdeacoaimnfeaa", sum := "89fb4be88bbcd0f70e328e6056a948b6b6b989ff4d62cf8260df03ccc4836c5a", checked := Try.checked }
namespace Rows
def none {H : Type} : Left H := { results := [], args := [] }

/-- 'valiselaw04.CoderEncodes': WHATEVER THE INPUT: true; the input reads as it did. -/
def coderEncodesSpec : ChangeSpec := { name := "coderEncodes", fn := fun _ => fun
  | [d1, d2] => { results := [.lit (.bool true)], args := [d1, d2] }
  | _ => none }
def coderEncodesRow : OpenClaim := { program := "ytfdeacoaimnfeaa", sum := "89fb4be88bbcd0f70e328e6056a948b6b6b989ff4d62cf8260df03ccc4836c5a", func := "valise/valiselaw04.CoderEncodes", spec := "coderEncodes", apart := false }
def CoderEncodesSaid : Prop := coderEncodesRow.holds Try.pinned (OpenSpec.ofChange coderEncodesSpec)

/-- ITS FALSE NEIGHBOUR: 'it returns false'. Refute it at one input. -/
def coderEncodesWrong : ChangeSpec := { name := "coderEncodes", fn := fun _ => fun
  | [d1, d2] => { results := [.lit (.bool false)], args := [d1, d2] }
  | _ => none }
def CoderEncodesWrongFalsely : Prop := coderEncodesRow.holds Try.pinned (OpenSpec.ofChange coderEncodesWrong)

/-- 'valiselaw04.CoderDecodes': WHATEVER THE INPUT: true; the input reads as it did. -/
def coderDecodesSpec : ChangeSpec := { name := "coderDecodes", fn := fun _ => fun
  | [d1, d2] => { results := [.lit (.bool true)], args := [d1, d2] }
  | _ => none }
def coderDecodesRow : OpenClaim := { program := "ytfdeacoaimnfeaa", sum := "89fb4be88bbcd0f70e328e6056a948b6b6b989ff4d62cf8260df03ccc4836c5a", func := "valise/valiselaw04.CoderDecodes", spec := "coderDecodes", unfollowed := true, recurses := true, apart := false }
def CoderDecodesSaid : Prop := coderDecodesRow.holds Try.pinned (OpenSpec.ofChange coderDecodesSpec)

/-- ITS FALSE NEIGHBOUR: 'it returns false'. Refute it at one input. -/
def coderDecodesWrong : ChangeSpec := { name := "coderDecodes", fn := fun _ => fun
  | [d1, d2] => { results := [.lit (.bool false)], args := [d1, d2] }
  | _ => none }
def CoderDecodesWrongFalsely : Prop := coderDecodesRow.holds Try.pinned (OpenSpec.ofChange coderDecodesWrong)

/-- 'valiselaw04.CoderBack': WHATEVER THE INPUT: true; the input reads as it did. -/
def coderBackSpec : ChangeSpec := { name := "coderBack", fn := fun _ => fun
  | [d] => { results := [.lit (.bool true)], args := [d] }
  | _ => none }
def coderBackRow : OpenClaim := { program := "ytfdeacoaimnfeaa", sum := "89fb4be88bbcd0f70e328e6056a948b6b6b989ff4d62cf8260df03ccc4836c5a", func := "valise/valiselaw04.CoderBack", spec := "coderBack", apart := false }
def CoderBackSaid : Prop := coderBackRow.holds Try.pinned (OpenSpec.ofChange coderBackSpec)

/-- ITS FALSE NEIGHBOUR: 'it returns false'. Refute it at one input. -/
def coderBackWrong : ChangeSpec := { name := "coderBack", fn := fun _ => fun
  | [d] => { results := [.lit (.bool false)], args := [d] }
  | _ => none }
def CoderBackWrongFalsely : Prop := coderBackRow.holds Try.pinned (OpenSpec.ofChange coderBackWrong)

/-- 'valiselaw04.CoderSmall': WHATEVER THE INPUT: true; the input reads as it did. -/
def coderSmallSpec : ChangeSpec := { name := "coderSmall", fn := fun _ => fun
  | [d] => { results := [.lit (.bool true)], args := [d] }
  | _ => none }
def coderSmallRow : OpenClaim := { program := "ytfdeacoaimnfeaa", sum := "89fb4be88bbcd0f70e328e6056a948b6b6b989ff4d62cf8260df03ccc4836c5a", func := "valise/valiselaw04.CoderSmall", spec := "coderSmall", apart := false }
def CoderSmallSaid : Prop := coderSmallRow.holds Try.pinned (OpenSpec.ofChange coderSmallSpec)

/-- ITS FALSE NEIGHBOUR: 'it returns false'. Refute it at one input. -/
def coderSmallWrong : ChangeSpec := { name := "coderSmall", fn := fun _ => fun
  | [d] => { results := [.lit (.bool false)], args := [d] }
  | _ => none }
def CoderSmallWrongFalsely : Prop := coderSmallRow.holds Try.pinned (OpenSpec.ofChange coderSmallWrong)

/-- 'valiselaw04.CoderNil': WHATEVER THE INPUT: true; the input reads as it did. -/
def coderNilSpec : ChangeSpec := { name := "coderNil", fn := fun _ => fun
  | [d1, d2] => { results := [.lit (.bool true)], args := [d1, d2] }
  | _ => none }
def coderNilRow : OpenClaim := { program := "ytfdeacoaimnfeaa", sum := "89fb4be88bbcd0f70e328e6056a948b6b6b989ff4d62cf8260df03ccc4836c5a", func := "valise/valiselaw04.CoderNil", spec := "coderNil", apart := false }
def CoderNilSaid : Prop := coderNilRow.holds Try.pinned (OpenSpec.ofChange coderNilSpec)

/-- ITS FALSE NEIGHBOUR: 'it returns false'. Refute it at one input. -/
def coderNilWrong : ChangeSpec := { name := "coderNil", fn := fun _ => fun
  | [d1, d2] => { results := [.lit (.bool false)], args := [d1, d2] }
  | _ => none }
def CoderNilWrongFalsely : Prop := coderNilRow.holds Try.pinned (OpenSpec.ofChange coderNilWrong)

/- THE SECOND FORM. 'bulk': how many values and letters a reading holds, each counted each time it is reached (what is shared counts as often as it is met; a slice's spare places count too). A statement '..UptoSaid' is the law's where the arguments, and the package variables that the reading takes, are together of bulk at most 1048576: NARROWER than '..Said'. Prove '..Said' where nothing that the law and all that it calls make is longer than what came in: it says more and counts as full. Else prove '..UptoSaid'. A law counts once. -/
mutual
def uptoBulk {H : Type} : DataW H → Nat
  | .lit (.string bytes) => bytes.length + 1
  | .lit _ => 1
  | .nil => 1
  | .ptr d => uptoBulk d + 1
  | .slice elems spare => uptoBulkAll elems + uptoBulkAll spare + 1
  | .agg parts => uptoBulkAll parts + 1
  | .iface _ d => uptoBulk d + 1
  | .map entries => uptoBulkEntries entries + 1
  | .held _ => 1
def uptoBulkAll {H : Type} : List (DataW H) → Nat
  | [] => 0
  | d :: r => uptoBulk d + uptoBulkAll r
def uptoBulkEntries {H : Type} : List (Lit × DataW H) → Nat
  | [] => 0
  | x :: r => uptoBulkEntry x + uptoBulkEntries r
def uptoBulkEntry {H : Type} : Lit × DataW H → Nat
  | (.string bytes, d) => bytes.length + uptoBulk d + 1
  | (_, d) => uptoBulk d + 1
 end
def uptoSmall : (H : Type) → List (DataW H) → Bool := fun _ ds => decide (uptoBulkAll ds ≤ 1048576)
def OpenSpec.upto (s : _root_.Go.ChangeSpec) : _root_.Go.OpenSpec := { _root_.Go.OpenSpec.ofChange s with cond := some uptoSmall }

/-- 'valiselaw04.CoderEncodes', WHERE WHAT IT READS IS OF BULK AT MOST 1048576: true; the input reads as it did. -/
def coderEncodesUptoRow : OpenClaim := { program := "ytfdeacoaimnfeaa", sum := "89fb4be88bbcd0f70e328e6056a948b6b6b989ff4d62cf8260df03ccc4836c5a", func := "valise/valiselaw04.CoderEncodes", spec := "coderEncodes", apart := false, narrowed := true }
def CoderEncodesUptoSaid : Prop := coderEncodesUptoRow.holds Try.pinned (OpenSpec.upto coderEncodesSpec)

/-- 'valiselaw04.CoderDecodes', WHERE WHAT IT READS IS OF BULK AT MOST 1048576: true; the input reads as it did. -/
def coderDecodesUptoRow : OpenClaim := { program := "ytfdeacoaimnfeaa", sum := "89fb4be88bbcd0f70e328e6056a948b6b6b989ff4d62cf8260df03ccc4836c5a", func := "valise/valiselaw04.CoderDecodes", spec := "coderDecodes", unfollowed := true, recurses := true, apart := false, narrowed := true }
def CoderDecodesUptoSaid : Prop := coderDecodesUptoRow.holds Try.pinned (OpenSpec.upto coderDecodesSpec)

/-- 'valiselaw04.CoderBack', WHERE WHAT IT READS IS OF BULK AT MOST 1048576: true; the input reads as it did. -/
def coderBackUptoRow : OpenClaim := { program := "ytfdeacoaimnfeaa", sum := "89fb4be88bbcd0f70e328e6056a948b6b6b989ff4d62cf8260df03ccc4836c5a", func := "valise/valiselaw04.CoderBack", spec := "coderBack", apart := false, narrowed := true }
def CoderBackUptoSaid : Prop := coderBackUptoRow.holds Try.pinned (OpenSpec.upto coderBackSpec)

/-- 'valiselaw04.CoderSmall', WHERE WHAT IT READS IS OF BULK AT MOST 1048576: true; the input reads as it did. -/
def coderSmallUptoRow : OpenClaim := { program := "ytfdeacoaimnfeaa", sum := "89fb4be88bbcd0f70e328e6056a948b6b6b989ff4d62cf8260df03ccc4836c5a", func := "valise/valiselaw04.CoderSmall", spec := "coderSmall", apart := false, narrowed := true }
def CoderSmallUptoSaid : Prop := coderSmallUptoRow.holds Try.pinned (OpenSpec.upto coderSmallSpec)

/-- 'valiselaw04.CoderNil', WHERE WHAT IT READS IS OF BULK AT MOST 1048576: true; the input reads as it did. -/
def coderNilUptoRow : OpenClaim := { program := "ytfdeacoaimnfeaa", sum := "89fb4be88bbcd0f70e328e6056a948b6b6b989ff4d62cf8260df03ccc4836c5a", func := "valise/valiselaw04.CoderNil", spec := "coderNil", apart := false, narrowed := true }
def CoderNilUptoSaid : Prop := coderNilUptoRow.holds Try.pinned (OpenSpec.upto coderNilSpec)

end Rows
end Go.Proofs.Ytfdeacoaimnfeaa
