/-
  No cell of these rows narrows 'for every input' (looked for: loops, veiled, ifaces, maps, wideKeys, modest, calm, conditions, laid).
  DERIVED. THE GIVEN ROWS OF THIS SEAT. 5 by the template 'for every input the law returns true; each argument reads behind the call as it read before'; 0 by the template 'total and deterministic' (their statements: YtoobikbglebboaaTotals.lean).
  GIVEN WITH THE SEED: the statements are not yours to turn. If you find one false, say at which input.
  Laid BY PROGRAM, IN A SANDBOX (cutbox-rows.mjs): the forced cells as the released guide's own fill.sh prints them over the translation fca60fa0a8e731a7… (all of the seat's roots in one cut). By AI agents, Wed Nov 11 2026. No macro, syntax, notation, axiom, sorry.
-/
import Derived.Test.YtoobikbglebboaaChecked
import GoSem.Claim
import GoSem.ClaimJoined
import GoSem.ClaimMapViews
import Derived.JoinedTies
import Derived.KernelRfl
namespace Go.Proofs.Ytoobikbglebboaa
/- THE CELL 'sum', in the pinned program and in every row, IS THE sha256 OF THE DUMP (.gsa) THAT YtoobikbglebboaaProg.lean LOADS. Nothing in Lean hashes anything: it is a label: what it is worth is what the hold of that sum in a sandbox is worth. -/
noncomputable def Try.pinned : Pinned := { name := "ytoobikbglebboaa", sum := "fca60fa0a8e731a7a173e4e6c5202f431989ce837eb91f3bfdfd88a79abadf33", checked := Try.checked }
namespace Rows
def none {H : Type} : Left H := { results := [], args := [] }

/-- 'valiselaw06.MixSquashes': WHATEVER THE INPUT: true; the input reads as it did. -/
def mixSquashesSpec : ChangeSpec := { name := "mixSquashes", fn := fun _ => fun
  | [d1, d2] => { results := [.lit (.bool true)], args := [d1, d2] }
  | _ => none }
def mixSquashesRow : OpenClaim := { program := "ytoobikbglebboaa", sum := "fca60fa0a8e731a7a173e4e6c5202f431989ce837eb91f3bfdfd88a79abadf33", func := "valise/valiselaw06.MixSquashes", spec := "mixSquashes", apart := false }
def MixSquashesSaid : Prop := mixSquashesRow.holds Try.pinned (OpenSpec.ofChange mixSquashesSpec)

/-- ITS FALSE NEIGHBOUR: 'it returns false'. Refute it at one input. -/
def mixSquashesWrong : ChangeSpec := { name := "mixSquashes", fn := fun _ => fun
  | [d1, d2] => { results := [.lit (.bool false)], args := [d1, d2] }
  | _ => none }
def MixSquashesWrongFalsely : Prop := mixSquashesRow.holds Try.pinned (OpenSpec.ofChange mixSquashesWrong)

/-- 'valiselaw06.MixOrder': WHATEVER THE INPUT: true; the input reads as it did. -/
def mixOrderSpec : ChangeSpec := { name := "mixOrder", fn := fun _ => fun
  | [d1, d2, d3] => { results := [.lit (.bool true)], args := [d1, d2, d3] }
  | _ => none }
def mixOrderRow : OpenClaim := { program := "ytoobikbglebboaa", sum := "fca60fa0a8e731a7a173e4e6c5202f431989ce837eb91f3bfdfd88a79abadf33", func := "valise/valiselaw06.MixOrder", spec := "mixOrder", apart := false }
def MixOrderSaid : Prop := mixOrderRow.holds Try.pinned (OpenSpec.ofChange mixOrderSpec)

/-- ITS FALSE NEIGHBOUR: 'it returns false'. Refute it at one input. -/
def mixOrderWrong : ChangeSpec := { name := "mixOrder", fn := fun _ => fun
  | [d1, d2, d3] => { results := [.lit (.bool false)], args := [d1, d2, d3] }
  | _ => none }
def MixOrderWrongFalsely : Prop := mixOrderRow.holds Try.pinned (OpenSpec.ofChange mixOrderWrong)

/-- 'valiselaw06.MixPlays': WHATEVER THE INPUT: true; the input reads as it did. -/
def mixPlaysSpec : ChangeSpec := { name := "mixPlays", fn := fun _ => fun
  | [d1, d2] => { results := [.lit (.bool true)], args := [d1, d2] }
  | _ => none }
def mixPlaysRow : OpenClaim := { program := "ytoobikbglebboaa", sum := "fca60fa0a8e731a7a173e4e6c5202f431989ce837eb91f3bfdfd88a79abadf33", func := "valise/valiselaw06.MixPlays", spec := "mixPlays", unfollowed := true, recurses := true, apart := false }
def MixPlaysSaid : Prop := mixPlaysRow.holds Try.pinned (OpenSpec.ofChange mixPlaysSpec)

/-- ITS FALSE NEIGHBOUR: 'it returns false'. Refute it at one input. -/
def mixPlaysWrong : ChangeSpec := { name := "mixPlays", fn := fun _ => fun
  | [d1, d2] => { results := [.lit (.bool false)], args := [d1, d2] }
  | _ => none }
def MixPlaysWrongFalsely : Prop := mixPlaysRow.holds Try.pinned (OpenSpec.ofChange mixPlaysWrong)

/-- 'valiselaw06.MixLearns': WHATEVER THE INPUT: true; the input reads as it did. -/
def mixLearnsSpec : ChangeSpec := { name := "mixLearns", fn := fun _ => fun
  | [d1, d2, d3] => { results := [.lit (.bool true)], args := [d1, d2, d3] }
  | _ => none }
def mixLearnsRow : OpenClaim := { program := "ytoobikbglebboaa", sum := "fca60fa0a8e731a7a173e4e6c5202f431989ce837eb91f3bfdfd88a79abadf33", func := "valise/valiselaw06.MixLearns", spec := "mixLearns", apart := false }
def MixLearnsSaid : Prop := mixLearnsRow.holds Try.pinned (OpenSpec.ofChange mixLearnsSpec)

/-- ITS FALSE NEIGHBOUR: 'it returns false'. Refute it at one input. -/
def mixLearnsWrong : ChangeSpec := { name := "mixLearns", fn := fun _ => fun
  | [d1, d2, d3] => { results := [.lit (.bool false)], args := [d1, d2, d3] }
  | _ => none }
def MixLearnsWrongFalsely : Prop := mixLearnsRow.holds Try.pinned (OpenSpec.ofChange mixLearnsWrong)

/-- 'valiselaw06.MixNil': WHATEVER THE INPUT: true; the input reads as it did. -/
def mixNilSpec : ChangeSpec := { name := "mixNil", fn := fun _ => fun
  | [d1, d2, d3] => { results := [.lit (.bool true)], args := [d1, d2, d3] }
  | _ => none }
def mixNilRow : OpenClaim := { program := "ytoobikbglebboaa", sum := "fca60fa0a8e731a7a173e4e6c5202f431989ce837eb91f3bfdfd88a79abadf33", func := "valise/valiselaw06.MixNil", spec := "mixNil", apart := false }
def MixNilSaid : Prop := mixNilRow.holds Try.pinned (OpenSpec.ofChange mixNilSpec)

/-- ITS FALSE NEIGHBOUR: 'it returns false'. Refute it at one input. -/
def mixNilWrong : ChangeSpec := { name := "mixNil", fn := fun _ => fun
  | [d1, d2, d3] => { results := [.lit (.bool false)], args := [d1, d2, d3] }
  | _ => none }
def MixNilWrongFalsely : Prop := mixNilRow.holds Try.pinned (OpenSpec.ofChange mixNilWrong)

/- THE SECOND FORM. 'bulk': how many values and letters a reading holds, each counted each time it is reached (what is shared counts as often as it is met; a slice's spare places count too). A statement '..UptoSaid' is the law's where the arguments, and the package variables that the reading takes, are together of bulk at most 1048576: NARROWER than '..Said'. Prove '..Said' where nothing that the law and all that it calls make is longer than what came in: it says more and counts as full. Else prove '..UptoSaid'. A law counts once. -/
mutual
def uptoBulk {H : Type} : DataW H → Nat
  | .lit (.string bytes) => bytes.length + 1
  | .lit _ => 1
  | .nil => 1
  | .ptr d => uptoBulk d + 1
  | .slice elems spare => uptoBulkAll elems + uptoBulkAll spare + 1
  | .agg parts => uptoBulkAll parts + 1
  | .iface _ d => uptoBulk d + 1
  | .map entries => uptoBulkEntries entries + 1
  | .held _ => 1
def uptoBulkAll {H : Type} : List (DataW H) → Nat
  | [] => 0
  | d :: r => uptoBulk d + uptoBulkAll r
def uptoBulkEntries {H : Type} : List (Lit × DataW H) → Nat
  | [] => 0
  | x :: r => uptoBulkEntry x + uptoBulkEntries r
def uptoBulkEntry {H : Type} : Lit × DataW H → Nat
  | (.string bytes, d) => bytes.length + uptoBulk d + 1
  | (_, d) => uptoBulk d + 1
 end
def uptoSmall : (H : Type) → List (DataW H) → Bool := fun _ ds => decide (uptoBulkAll ds ≤ 1048576)
def OpenSpec.upto (s : _root_.Go.ChangeSpec) : _root_.Go.OpenSpec := { _root_.Go.OpenSpec.ofChange s with cond := some uptoSmall }

/-- 'valiselaw06.MixSquashes', WHERE WHAT IT READS IS OF BULK AT MOST 1048576: true; the input reads as it did. -/
def mixSquashesUptoRow : OpenClaim := { program := "ytoobikbglebboaa", sum := "fca60fa0a8e731a7a173e4e6c5202f431989ce837eb91f3bfdfd88a79abadf33", func := "valise/valiselaw06.MixSquashes", spec := "mixSquashes", apart := false, narrowed := true }
def MixSquashesUptoSaid : Prop := mixSquashesUptoRow.holds Try.pinned (OpenSpec.upto mixSquashesSpec)

/-- 'valiselaw06.MixOrder', WHERE WHAT IT READS IS OF BULK AT MOST 1048576: true; the input reads as it did. -/
def mixOrderUptoRow : OpenClaim := { program := "ytoobikbglebboaa", sum := "fca60fa0a8e731a7a173e4e6c5202f431989ce837eb91f3bfdfd88a79abadf33", func := "valise/valiselaw06.MixOrder", spec := "mixOrder", apart := false, narrowed := true }
def MixOrderUptoSaid : Prop := mixOrderUptoRow.holds Try.pinned (OpenSpec.upto mixOrderSpec)

/-- 'valiselaw06.MixPlays', WHERE WHAT IT READS IS OF BULK AT MOST 1048576: true; the input reads as it did. -/
def mixPlaysUptoRow : OpenClaim := { program := "ytoobikbglebboaa", sum := "fca60fa0a8e731a7a173e4e6c5202f431989ce837eb91f3bfdfd88a79abadf33", func := "valise/valiselaw06.MixPlays", spec := "mixPlays", unfollowed := true, recurses := true, apart := false, narrowed := true }
def MixPlaysUptoSaid : Prop := mixPlaysUptoRow.holds Try.pinned (OpenSpec.upto mixPlaysSpec)

/-- 'valiselaw06.MixLearns', WHERE WHAT IT READS IS OF BULK AT MOST 1048576: true; the input reads as it did. -/
def mixLearnsUptoRow : OpenClaim := { program := "ytoobikbglebboaa", sum := "fca60fa0a8e731a7a173e4e6c5202f431989ce837eb91f3bfdfd88a79abadf33", func := "valise/valiselaw06.MixLearns", spec := "mixLearns", apart := false, narrowed := true }
def MixLearnsUptoSaid : Prop := mixLearnsUptoRow.holds Try.pinned (OpenSpec.upto mixLearnsSpec)

/-- 'valiselaw06.MixNil', WHERE WHAT IT READS IS OF BULK AT MOST 1048576: true; the input reads as it did. -/
def mixNilUptoRow : OpenClaim := { program := "ytoobikbglebboaa", sum := "fca60fa0a8e731a7a173e4e6c5202f431989ce837eb91f3bfdfd88a79abadf33", func := "valise/valiselaw06.MixNil", spec := "mixNil", apart := false, narrowed := true }
def MixNilUptoSaid : Prop := mixNilUptoRow.holds Try.pinned (OpenSpec.upto mixNilSpec)

end Rows
end Go.Proofs.Ytoobikbglebboaa
