/-
  No cell of these rows narrows 'for every input' (looked for: loops, veiled, ifaces, maps, wideKeys, modest, calm, conditions, laid).
  DERIVED. THE GIVEN ROWS OF THIS SEAT. 4 by the template 'for every input the law returns true; each argument reads behind the call as it read before'; 0 by the template 'total and deterministic' (their statements: YtcogdehpodfkpaaTotals.lean).
  GIVEN WITH THE SEED: the statements are not yours to turn. If you find one false, say at which input.
  Laid BY PROGRAM, IN A SANDBOX (cutbox-rows.mjs): the forced cells as the released guide's own fill.sh prints them over the translation c728986b5c560584… (all of the seat's roots in one cut). By AI agents, Wed Nov 11 2026. No macro, syntax, notation, axiom, sorry.
-/
import Derived.Test.YtcogdehpodfkpaaChecked
import GoSem.Claim
import GoSem.ClaimJoined
import GoSem.ClaimMapViews
import Derived.JoinedTies
import Derived.KernelRfl
namespace Go.Proofs.Ytcogdehpodfkpaa
/- THE CELL 'sum', in the pinned program and in every row, IS THE sha256 OF THE DUMP (.gsa) THAT YtcogdehpodfkpaaProg.lean LOADS. Nothing in Lean hashes anything: it is a label: what it is worth is what the hold of that sum in a sandbox is worth. -/
noncomputable def Try.pinned : Pinned := { name := "ytcogdehpodfkpaa", sum := "c728986b5c5605843c56d8fb43865a6b100ccf43478e2a9ec798b41dc1ef045a", checked := Try.checked }
namespace Rows
def none {H : Type} : Left H := { results := [], args := [] }

/-- 'valiselaw18.ColourTurns': WHATEVER THE INPUT: true; the input reads as it did. -/
def colourTurnsSpec : ChangeSpec := { name := "colourTurns", fn := fun _ => fun
  | [d1, d2] => { results := [.lit (.bool true)], args := [d1, d2] }
  | _ => none }
def colourTurnsRow : OpenClaim := { program := "ytcogdehpodfkpaa", sum := "c728986b5c5605843c56d8fb43865a6b100ccf43478e2a9ec798b41dc1ef045a", func := "valise/valiselaw18.ColourTurns", spec := "colourTurns", unfollowed := true, recurses := true, apart := false }
def ColourTurnsSaid : Prop := colourTurnsRow.holds Try.pinned (OpenSpec.ofChange colourTurnsSpec)

/-- ITS FALSE NEIGHBOUR: 'it returns false'. Refute it at one input. -/
def colourTurnsWrong : ChangeSpec := { name := "colourTurns", fn := fun _ => fun
  | [d1, d2] => { results := [.lit (.bool false)], args := [d1, d2] }
  | _ => none }
def ColourTurnsWrongFalsely : Prop := colourTurnsRow.holds Try.pinned (OpenSpec.ofChange colourTurnsWrong)

/-- 'valiselaw18.ColourBack': WHATEVER THE INPUT: true; the input reads as it did. -/
def colourBackSpec : ChangeSpec := { name := "colourBack", fn := fun _ => fun
  | [d1, d2] => { results := [.lit (.bool true)], args := [d1, d2] }
  | _ => none }
def colourBackRow : OpenClaim := { program := "ytcogdehpodfkpaa", sum := "c728986b5c5605843c56d8fb43865a6b100ccf43478e2a9ec798b41dc1ef045a", func := "valise/valiselaw18.ColourBack", spec := "colourBack", unfollowed := true, recurses := true, apart := false }
def ColourBackSaid : Prop := colourBackRow.holds Try.pinned (OpenSpec.ofChange colourBackSpec)

/-- ITS FALSE NEIGHBOUR: 'it returns false'. Refute it at one input. -/
def colourBackWrong : ChangeSpec := { name := "colourBack", fn := fun _ => fun
  | [d1, d2] => { results := [.lit (.bool false)], args := [d1, d2] }
  | _ => none }
def ColourBackWrongFalsely : Prop := colourBackRow.holds Try.pinned (OpenSpec.ofChange colourBackWrong)

/-- 'valiselaw18.ColourGrey': WHATEVER THE INPUT: true; the input reads as it did. -/
def colourGreySpec : ChangeSpec := { name := "colourGrey", fn := fun _ => fun
  | [d] => { results := [.lit (.bool true)], args := [d] }
  | _ => none }
def colourGreyRow : OpenClaim := { program := "ytcogdehpodfkpaa", sum := "c728986b5c5605843c56d8fb43865a6b100ccf43478e2a9ec798b41dc1ef045a", func := "valise/valiselaw18.ColourGrey", spec := "colourGrey", unfollowed := true, recurses := true, apart := false }
def ColourGreySaid : Prop := colourGreyRow.holds Try.pinned (OpenSpec.ofChange colourGreySpec)

/-- ITS FALSE NEIGHBOUR: 'it returns false'. Refute it at one input. -/
def colourGreyWrong : ChangeSpec := { name := "colourGrey", fn := fun _ => fun
  | [d] => { results := [.lit (.bool false)], args := [d] }
  | _ => none }
def ColourGreyWrongFalsely : Prop := colourGreyRow.holds Try.pinned (OpenSpec.ofChange colourGreyWrong)

/-- 'valiselaw18.ColourColumns': WHATEVER THE INPUT: true; the input reads as it did. -/
def colourColumnsSpec : ChangeSpec := { name := "colourColumns", fn := fun _ => fun
  | [d1, d2] => { results := [.lit (.bool true)], args := [d1, d2] }
  | _ => none }
def colourColumnsRow : OpenClaim := { program := "ytcogdehpodfkpaa", sum := "c728986b5c5605843c56d8fb43865a6b100ccf43478e2a9ec798b41dc1ef045a", func := "valise/valiselaw18.ColourColumns", spec := "colourColumns", unfollowed := true, recurses := true, apart := false }
def ColourColumnsSaid : Prop := colourColumnsRow.holds Try.pinned (OpenSpec.ofChange colourColumnsSpec)

/-- ITS FALSE NEIGHBOUR: 'it returns false'. Refute it at one input. -/
def colourColumnsWrong : ChangeSpec := { name := "colourColumns", fn := fun _ => fun
  | [d1, d2] => { results := [.lit (.bool false)], args := [d1, d2] }
  | _ => none }
def ColourColumnsWrongFalsely : Prop := colourColumnsRow.holds Try.pinned (OpenSpec.ofChange colourColumnsWrong)

/- THE SECOND FORM. 'bulk': how many values and letters a reading holds, each counted each time it is reached (what is shared counts as often as it is met; a slice's spare places count too). A statement '..UptoSaid' is the law's where the arguments, and the package variables that the reading takes, are together of bulk at most 1048576: NARROWER than '..Said'. Prove '..Said' where nothing that the law and all that it calls make is longer than what came in: it says more and counts as full. Else prove '..UptoSaid'. A law counts once. -/
mutual
def uptoBulk {H : Type} : DataW H → Nat
  | .lit (.string bytes) => bytes.length + 1
  | .lit _ => 1
  | .nil => 1
  | .ptr d => uptoBulk d + 1
  | .slice elems spare => uptoBulkAll elems + uptoBulkAll spare + 1
  | .agg parts => uptoBulkAll parts + 1
  | .iface _ d => uptoBulk d + 1
  | .map entries => uptoBulkEntries entries + 1
  | .held _ => 1
def uptoBulkAll {H : Type} : List (DataW H) → Nat
  | [] => 0
  | d :: r => uptoBulk d + uptoBulkAll r
def uptoBulkEntries {H : Type} : List (Lit × DataW H) → Nat
  | [] => 0
  | x :: r => uptoBulkEntry x + uptoBulkEntries r
def uptoBulkEntry {H : Type} : Lit × DataW H → Nat
  | (.string bytes, d) => bytes.length + uptoBulk d + 1
  | (_, d) => uptoBulk d + 1
 end
def uptoSmall : (H : Type) → List (DataW H) → Bool := fun _ ds => decide (uptoBulkAll ds ≤ 1048576)
def OpenSpec.upto (s : _root_.Go.ChangeSpec) : _root_.Go.OpenSpec := { _root_.Go.OpenSpec.ofChange s with cond := some uptoSmall }

/-- 'valiselaw18.ColourTurns', WHERE WHAT IT READS IS OF BULK AT MOST 1048576: true; the input reads as it did. -/
def colourTurnsUptoRow : OpenClaim := { program := "ytcogdehpodfkpaa", sum := "c728986b5c5605843c56d8fb43865a6b100ccf43478e2a9ec798b41dc1ef045a", func := "valise/valiselaw18.ColourTurns", spec := "colourTurns", unfollowed := true, recurses := true, apart := false, narrowed := true }
def ColourTurnsUptoSaid : Prop := colourTurnsUptoRow.holds Try.pinned (OpenSpec.upto colourTurnsSpec)

/-- 'valiselaw18.ColourBack', WHERE WHAT IT READS IS OF BULK AT MOST 1048576: true; the input reads as it did. -/
def colourBackUptoRow : OpenClaim := { program := "ytcogdehpodfkpaa", sum := "c728986b5c5605843c56d8fb43865a6b100ccf43478e2a9ec798b41dc1ef045a", func := "valise/valiselaw18.ColourBack", spec := "colourBack", unfollowed := true, recurses := true, apart := false, narrowed := true }
def ColourBackUptoSaid : Prop := colourBackUptoRow.holds Try.pinned (OpenSpec.upto colourBackSpec)

/-- 'valiselaw18.ColourGrey', WHERE WHAT IT READS IS OF BULK AT MOST 1048576: true; the input reads as it did. -/
def colourGreyUptoRow : OpenClaim := { program := "ytcogdehpodfkpaa", sum := "c728986b5c5605843c56d8fb43865a6b100ccf43478e2a9ec798b41dc1ef045a", func := "valise/valiselaw18.ColourGrey", spec := "colourGrey", unfollowed := true, recurses := true, apart := false, narrowed := true }
def ColourGreyUptoSaid : Prop := colourGreyUptoRow.holds Try.pinned (OpenSpec.upto colourGreySpec)

/-- 'valiselaw18.ColourColumns', WHERE WHAT IT READS IS OF BULK AT MOST 1048576: true; the input reads as it did. -/
def colourColumnsUptoRow : OpenClaim := { program := "ytcogdehpodfkpaa", sum := "c728986b5c5605843c56d8fb43865a6b100ccf43478e2a9ec798b41dc1ef045a", func := "valise/valiselaw18.ColourColumns", spec := "colourColumns", unfollowed := true, recurses := true, apart := false, narrowed := true }
def ColourColumnsUptoSaid : Prop := colourColumnsUptoRow.holds Try.pinned (OpenSpec.upto colourColumnsSpec)

end Rows
end Go.Proofs.Ytcogdehpodfkpaa
