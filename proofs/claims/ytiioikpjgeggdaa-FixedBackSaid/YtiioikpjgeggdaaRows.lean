/-
  No cell of these rows narrows 'for every input' (looked for: loops, veiled, ifaces, maps, wideKeys, modest, calm, conditions, laid).
  DERIVED. THE GIVEN ROWS OF THIS SEAT. 4 by the template 'for every input the law returns true; each argument reads behind the call as it read before'; 0 by the template 'total and deterministic' (their statements: YtiioikpjgeggdaaTotals.lean).
  GIVEN WITH THE SEED: the statements are not yours to turn. If you find one false, say at which input.
  Laid BY PROGRAM, IN A SANDBOX (cutbox-rows.mjs): the forced cells as the released guide's own fill.sh prints them over the translation 9393d2eddc9cc809… (all of the seat's roots in one cut). By AI agents, Wed Nov 11 2026. No macro, syntax, notation, axiom, sorry.
-/
import Derived.Test.YtiioikpjgeggdaaChecked
import GoSem.Claim
import GoSem.ClaimJoined
import GoSem.ClaimMapViews
import Derived.JoinedTies
import Derived.KernelRfl
namespace Go.Proofs.Ytiioikpjgeggdaa
/- THE CELL 'sum', in the pinned program and in every row, IS THE sha256 OF THE DUMP (.gsa) THAT YtiioikpjgeggdaaProg.lean LOADS. Nothing in Lean hashes anything: it is a label: what it is worth is what the hold of that sum in a sandbox is worth. -/
noncomputable def Try.pinned : Pinned := { name := "ytiioikpjgeggdaa", sum := "9393d2eddc9cc809c34ec42041406914dd105a5b9f6e276c98281ff6a7def004", checked := Try.checked }
namespace Rows
def none {H : Type} : Left H := { results := [], args := [] }

/-- 'valiselaw11.FixedLeaves': WHATEVER THE INPUT: true; the input reads as it did. -/
def fixedLeavesSpec : ChangeSpec := { name := "fixedLeaves", fn := fun _ => fun
  | [d1, d2] => { results := [.lit (.bool true)], args := [d1, d2] }
  | _ => none }
def fixedLeavesRow : OpenClaim := { program := "ytiioikpjgeggdaa", sum := "9393d2eddc9cc809c34ec42041406914dd105a5b9f6e276c98281ff6a7def004", func := "valise/valiselaw11.FixedLeaves", spec := "fixedLeaves", unfollowed := true, recurses := true, apart := false }
def FixedLeavesSaid : Prop := fixedLeavesRow.holds Try.pinned (OpenSpec.ofChange fixedLeavesSpec)

/-- ITS FALSE NEIGHBOUR: 'it returns false'. Refute it at one input. -/
def fixedLeavesWrong : ChangeSpec := { name := "fixedLeaves", fn := fun _ => fun
  | [d1, d2] => { results := [.lit (.bool false)], args := [d1, d2] }
  | _ => none }
def FixedLeavesWrongFalsely : Prop := fixedLeavesRow.holds Try.pinned (OpenSpec.ofChange fixedLeavesWrong)

/-- 'valiselaw11.FixedBack': WHATEVER THE INPUT: true; the input reads as it did. -/
def fixedBackSpec : ChangeSpec := { name := "fixedBack", fn := fun _ => fun
  | [d1, d2] => { results := [.lit (.bool true)], args := [d1, d2] }
  | _ => none }
def fixedBackRow : OpenClaim := { program := "ytiioikpjgeggdaa", sum := "9393d2eddc9cc809c34ec42041406914dd105a5b9f6e276c98281ff6a7def004", func := "valise/valiselaw11.FixedBack", spec := "fixedBack", unfollowed := true, recurses := true, apart := false }
def FixedBackSaid : Prop := fixedBackRow.holds Try.pinned (OpenSpec.ofChange fixedBackSpec)

/-- ITS FALSE NEIGHBOUR: 'it returns false'. Refute it at one input. -/
def fixedBackWrong : ChangeSpec := { name := "fixedBack", fn := fun _ => fun
  | [d1, d2] => { results := [.lit (.bool false)], args := [d1, d2] }
  | _ => none }
def FixedBackWrongFalsely : Prop := fixedBackRow.holds Try.pinned (OpenSpec.ofChange fixedBackWrong)

/-- 'valiselaw11.FixedFlat': WHATEVER THE INPUT: true; the input reads as it did. -/
def fixedFlatSpec : ChangeSpec := { name := "fixedFlat", fn := fun _ => fun
  | [d1, d2, d3, d4] => { results := [.lit (.bool true)], args := [d1, d2, d3, d4] }
  | _ => none }
def fixedFlatRow : OpenClaim := { program := "ytiioikpjgeggdaa", sum := "9393d2eddc9cc809c34ec42041406914dd105a5b9f6e276c98281ff6a7def004", func := "valise/valiselaw11.FixedFlat", spec := "fixedFlat", apart := false }
def FixedFlatSaid : Prop := fixedFlatRow.holds Try.pinned (OpenSpec.ofChange fixedFlatSpec)

/-- ITS FALSE NEIGHBOUR: 'it returns false'. Refute it at one input. -/
def fixedFlatWrong : ChangeSpec := { name := "fixedFlat", fn := fun _ => fun
  | [d1, d2, d3, d4] => { results := [.lit (.bool false)], args := [d1, d2, d3, d4] }
  | _ => none }
def FixedFlatWrongFalsely : Prop := fixedFlatRow.holds Try.pinned (OpenSpec.ofChange fixedFlatWrong)

/-- 'valiselaw11.FixedSteps': WHATEVER THE INPUT: true; the input reads as it did. -/
def fixedStepsSpec : ChangeSpec := { name := "fixedSteps", fn := fun _ => fun
  | [d] => { results := [.lit (.bool true)], args := [d] }
  | _ => none }
def fixedStepsRow : OpenClaim := { program := "ytiioikpjgeggdaa", sum := "9393d2eddc9cc809c34ec42041406914dd105a5b9f6e276c98281ff6a7def004", func := "valise/valiselaw11.FixedSteps", spec := "fixedSteps", unfollowed := true, recurses := true, apart := false }
def FixedStepsSaid : Prop := fixedStepsRow.holds Try.pinned (OpenSpec.ofChange fixedStepsSpec)

/-- ITS FALSE NEIGHBOUR: 'it returns false'. Refute it at one input. -/
def fixedStepsWrong : ChangeSpec := { name := "fixedSteps", fn := fun _ => fun
  | [d] => { results := [.lit (.bool false)], args := [d] }
  | _ => none }
def FixedStepsWrongFalsely : Prop := fixedStepsRow.holds Try.pinned (OpenSpec.ofChange fixedStepsWrong)

/- THE SECOND FORM. 'bulk': how many values and letters a reading holds, each counted each time it is reached (what is shared counts as often as it is met; a slice's spare places count too). A statement '..UptoSaid' is the law's where the arguments, and the package variables that the reading takes, are together of bulk at most 1048576: NARROWER than '..Said'. Prove '..Said' where nothing that the law and all that it calls make is longer than what came in: it says more and counts as full. Else prove '..UptoSaid'. A law counts once. -/
mutual
def uptoBulk {H : Type} : DataW H → Nat
  | .lit (.string bytes) => bytes.length + 1
  | .lit _ => 1
  | .nil => 1
  | .ptr d => uptoBulk d + 1
  | .slice elems spare => uptoBulkAll elems + uptoBulkAll spare + 1
  | .agg parts => uptoBulkAll parts + 1
  | .iface _ d => uptoBulk d + 1
  | .map entries => uptoBulkEntries entries + 1
  | .held _ => 1
def uptoBulkAll {H : Type} : List (DataW H) → Nat
  | [] => 0
  | d :: r => uptoBulk d + uptoBulkAll r
def uptoBulkEntries {H : Type} : List (Lit × DataW H) → Nat
  | [] => 0
  | x :: r => uptoBulkEntry x + uptoBulkEntries r
def uptoBulkEntry {H : Type} : Lit × DataW H → Nat
  | (.string bytes, d) => bytes.length + uptoBulk d + 1
  | (_, d) => uptoBulk d + 1
 end
def uptoSmall : (H : Type) → List (DataW H) → Bool := fun _ ds => decide (uptoBulkAll ds ≤ 1048576)
def OpenSpec.upto (s : _root_.Go.ChangeSpec) : _root_.Go.OpenSpec := { _root_.Go.OpenSpec.ofChange s with cond := some uptoSmall }

/-- 'valiselaw11.FixedLeaves', WHERE WHAT IT READS IS OF BULK AT MOST 1048576: true; the input reads as it did. -/
def fixedLeavesUptoRow : OpenClaim := { program := "ytiioikpjgeggdaa", sum := "9393d2eddc9cc809c34ec42041406914dd105a5b9f6e276c98281ff6a7def004", func := "valise/valiselaw11.FixedLeaves", spec := "fixedLeaves", unfollowed := true, recurses := true, apart := false, narrowed := true }
def FixedLeavesUptoSaid : Prop := fixedLeavesUptoRow.holds Try.pinned (OpenSpec.upto fixedLeavesSpec)

/-- 'valiselaw11.FixedBack', WHERE WHAT IT READS IS OF BULK AT MOST 1048576: true; the input reads as it did. -/
def fixedBackUptoRow : OpenClaim := { program := "ytiioikpjgeggdaa", sum := "9393d2eddc9cc809c34ec42041406914dd105a5b9f6e276c98281ff6a7def004", func := "valise/valiselaw11.FixedBack", spec := "fixedBack", unfollowed := true, recurses := true, apart := false, narrowed := true }
def FixedBackUptoSaid : Prop := fixedBackUptoRow.holds Try.pinned (OpenSpec.upto fixedBackSpec)

/-- 'valiselaw11.FixedFlat', WHERE WHAT IT READS IS OF BULK AT MOST 1048576: true; the input reads as it did. -/
def fixedFlatUptoRow : OpenClaim := { program := "ytiioikpjgeggdaa", sum := "9393d2eddc9cc809c34ec42041406914dd105a5b9f6e276c98281ff6a7def004", func := "valise/valiselaw11.FixedFlat", spec := "fixedFlat", apart := false, narrowed := true }
def FixedFlatUptoSaid : Prop := fixedFlatUptoRow.holds Try.pinned (OpenSpec.upto fixedFlatSpec)

/-- 'valiselaw11.FixedSteps', WHERE WHAT IT READS IS OF BULK AT MOST 1048576: true; the input reads as it did. -/
def fixedStepsUptoRow : OpenClaim := { program := "ytiioikpjgeggdaa", sum := "9393d2eddc9cc809c34ec42041406914dd105a5b9f6e276c98281ff6a7def004", func := "valise/valiselaw11.FixedSteps", spec := "fixedSteps", unfollowed := true, recurses := true, apart := false, narrowed := true }
def FixedStepsUptoSaid : Prop := fixedStepsUptoRow.holds Try.pinned (OpenSpec.upto fixedStepsSpec)

end Rows
end Go.Proofs.Ytiioikpjgeggdaa
