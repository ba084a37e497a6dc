/-
  No cell of these rows narrows 'for every input' (looked for: loops, veiled, ifaces, maps, wideKeys, modest, calm, conditions, laid).
  DERIVED. THE GIVEN ROWS OF THIS SEAT. 4 by the template 'for every input the law returns true; each argument reads behind the call as it read before'; 0 by the template 'total and deterministic' (their statements: YtgcbjfkneigijaaTotals.lean).
  GIVEN WITH THE SEED: the statements are not yours to turn. If you find one false, say at which input.
  Laid BY PROGRAM, IN A SANDBOX (cutbox-rows.mjs): the forced cells as the released guide's own fill.sh prints them over the translation 06279cde489b5b71… (all of the seat's roots in one cut). By AI agents, Wed Nov 11 2026. No macro, syntax, notation, axiom, sorry.
-/
import Derived.Test.YtgcbjfkneigijaaChecked
import GoSem.Claim
import GoSem.ClaimJoined
import GoSem.ClaimMapViews
import Derived.JoinedTies
import Derived.KernelRfl
namespace Go.Proofs.Ytgcbjfkneigijaa
/- THE CELL 'sum', in the pinned program and in every row, IS THE sha256 OF THE DUMP (.gsa) THAT YtgcbjfkneigijaaProg.lean LOADS. Nothing in Lean hashes anything: it is a label: what it is worth is what the hold of that sum in a sandbox is worth. -/
noncomputable def Try.pinned : Pinned := { name := "ytgcbjfkneigijaa", sum := "06279cde489b5b7160de69309b6e10101c694870d39ce4b0690f58f32ce13c05", checked := Try.checked }
namespace Rows
def none {H : Type} : Left H := { results := [], args := [] }

/-- 'valiselaw12.LmsPlays': WHATEVER THE INPUT: true; the input reads as it did. -/
def lmsPlaysSpec : ChangeSpec := { name := "lmsPlays", fn := fun _ => fun
  | [d] => { results := [.lit (.bool true)], args := [d] }
  | _ => none }
def lmsPlaysRow : OpenClaim := { program := "ytgcbjfkneigijaa", sum := "06279cde489b5b7160de69309b6e10101c694870d39ce4b0690f58f32ce13c05", func := "valise/valiselaw12.LmsPlays", spec := "lmsPlays", apart := false }
def LmsPlaysSaid : Prop := lmsPlaysRow.holds Try.pinned (OpenSpec.ofChange lmsPlaysSpec)

/-- ITS FALSE NEIGHBOUR: 'it returns false'. Refute it at one input. -/
def lmsPlaysWrong : ChangeSpec := { name := "lmsPlays", fn := fun _ => fun
  | [d] => { results := [.lit (.bool false)], args := [d] }
  | _ => none }
def LmsPlaysWrongFalsely : Prop := lmsPlaysRow.holds Try.pinned (OpenSpec.ofChange lmsPlaysWrong)

/-- 'valiselaw12.LmsLeaves': WHATEVER THE INPUT: true; the input reads as it did. -/
def lmsLeavesSpec : ChangeSpec := { name := "lmsLeaves", fn := fun _ => fun
  | [d] => { results := [.lit (.bool true)], args := [d] }
  | _ => none }
def lmsLeavesRow : OpenClaim := { program := "ytgcbjfkneigijaa", sum := "06279cde489b5b7160de69309b6e10101c694870d39ce4b0690f58f32ce13c05", func := "valise/valiselaw12.LmsLeaves", spec := "lmsLeaves", unfollowed := true, recurses := true, apart := false }
def LmsLeavesSaid : Prop := lmsLeavesRow.holds Try.pinned (OpenSpec.ofChange lmsLeavesSpec)

/-- ITS FALSE NEIGHBOUR: 'it returns false'. Refute it at one input. -/
def lmsLeavesWrong : ChangeSpec := { name := "lmsLeaves", fn := fun _ => fun
  | [d] => { results := [.lit (.bool false)], args := [d] }
  | _ => none }
def LmsLeavesWrongFalsely : Prop := lmsLeavesRow.holds Try.pinned (OpenSpec.ofChange lmsLeavesWrong)

/-- 'valiselaw12.LmsBack': WHATEVER THE INPUT: true; the input reads as it did. -/
def lmsBackSpec : ChangeSpec := { name := "lmsBack", fn := fun _ => fun
  | [d1, d2] => { results := [.lit (.bool true)], args := [d1, d2] }
  | _ => none }
def lmsBackRow : OpenClaim := { program := "ytgcbjfkneigijaa", sum := "06279cde489b5b7160de69309b6e10101c694870d39ce4b0690f58f32ce13c05", func := "valise/valiselaw12.LmsBack", spec := "lmsBack", unfollowed := true, recurses := true, apart := false }
def LmsBackSaid : Prop := lmsBackRow.holds Try.pinned (OpenSpec.ofChange lmsBackSpec)

/-- ITS FALSE NEIGHBOUR: 'it returns false'. Refute it at one input. -/
def lmsBackWrong : ChangeSpec := { name := "lmsBack", fn := fun _ => fun
  | [d1, d2] => { results := [.lit (.bool false)], args := [d1, d2] }
  | _ => none }
def LmsBackWrongFalsely : Prop := lmsBackRow.holds Try.pinned (OpenSpec.ofChange lmsBackWrong)

/-- 'valiselaw12.LmsNil': WHATEVER THE INPUT: true; the input reads as it did. -/
def lmsNilSpec : ChangeSpec := { name := "lmsNil", fn := fun _ => fun
  | [d] => { results := [.lit (.bool true)], args := [d] }
  | _ => none }
def lmsNilRow : OpenClaim := { program := "ytgcbjfkneigijaa", sum := "06279cde489b5b7160de69309b6e10101c694870d39ce4b0690f58f32ce13c05", func := "valise/valiselaw12.LmsNil", spec := "lmsNil", apart := false }
def LmsNilSaid : Prop := lmsNilRow.holds Try.pinned (OpenSpec.ofChange lmsNilSpec)

/-- ITS FALSE NEIGHBOUR: 'it returns false'. Refute it at one input. -/
def lmsNilWrong : ChangeSpec := { name := "lmsNil", fn := fun _ => fun
  | [d] => { results := [.lit (.bool false)], args := [d] }
  | _ => none }
def LmsNilWrongFalsely : Prop := lmsNilRow.holds Try.pinned (OpenSpec.ofChange lmsNilWrong)

/- THE SECOND FORM. 'bulk': how many values and letters a reading holds, each counted each time it is reached (what is shared counts as often as it is met; a slice's spare places count too). A statement '..UptoSaid' is the law's where the arguments, and the package variables that the reading takes, are together of bulk at most 1048576: NARROWER than '..Said'. Prove '..Said' where nothing that the law and all that it calls make is longer than what came in: it says more and counts as full. Else prove '..UptoSaid'. A law counts once. -/
mutual
def uptoBulk {H : Type} : DataW H → Nat
  | .lit (.string bytes) => bytes.length + 1
  | .lit _ => 1
  | .nil => 1
  | .ptr d => uptoBulk d + 1
  | .slice elems spare => uptoBulkAll elems + uptoBulkAll spare + 1
  | .agg parts => uptoBulkAll parts + 1
  | .iface _ d => uptoBulk d + 1
  | .map entries => uptoBulkEntries entries + 1
  | .held _ => 1
def uptoBulkAll {H : Type} : List (DataW H) → Nat
  | [] => 0
  | d :: r => uptoBulk d + uptoBulkAll r
def uptoBulkEntries {H : Type} : List (Lit × DataW H) → Nat
  | [] => 0
  | x :: r => uptoBulkEntry x + uptoBulkEntries r
def uptoBulkEntry {H : Type} : Lit × DataW H → Nat
  | (.string bytes, d) => bytes.length + uptoBulk d + 1
  | (_, d) => uptoBulk d + 1
 end
def uptoSmall : (H : Type) → List (DataW H) → Bool := fun _ ds => decide (uptoBulkAll ds ≤ 1048576)
def OpenSpec.upto (s : _root_.Go.ChangeSpec) : _root_.Go.OpenSpec := { _root_.Go.OpenSpec.ofChange s with cond := some uptoSmall }

/-- 'valiselaw12.LmsPlays', WHERE WHAT IT READS IS OF BULK AT MOST 1048576: true; the input reads as it did. -/
def lmsPlaysUptoRow : OpenClaim := { program := "ytgcbjfkneigijaa", sum := "06279cde489b5b7160de69309b6e10101c694870d39ce4b0690f58f32ce13c05", func := "valise/valiselaw12.LmsPlays", spec := "lmsPlays", apart := false, narrowed := true }
def LmsPlaysUptoSaid : Prop := lmsPlaysUptoRow.holds Try.pinned (OpenSpec.upto lmsPlaysSpec)

/-- 'valiselaw12.LmsLeaves', WHERE WHAT IT READS IS OF BULK AT MOST 1048576: true; the input reads as it did. -/
def lmsLeavesUptoRow : OpenClaim := { program := "ytgcbjfkneigijaa", sum := "06279cde489b5b7160de69309b6e10101c694870d39ce4b0690f58f32ce13c05", func := "valise/valiselaw12.LmsLeaves", spec := "lmsLeaves", unfollowed := true, recurses := true, apart := false, narrowed := true }
def LmsLeavesUptoSaid : Prop := lmsLeavesUptoRow.holds Try.pinned (OpenSpec.upto lmsLeavesSpec)

/-- 'valiselaw12.LmsBack', WHERE WHAT IT READS IS OF BULK AT MOST 1048576: true; the input reads as it did. -/
def lmsBackUptoRow : OpenClaim := { program := "ytgcbjfkneigijaa", sum := "06279cde489b5b7160de69309b6e10101c694870d39ce4b0690f58f32ce13c05", func := "valise/valiselaw12.LmsBack", spec := "lmsBack", unfollowed := true, recurses := true, apart := false, narrowed := true }
def LmsBackUptoSaid : Prop := lmsBackUptoRow.holds Try.pinned (OpenSpec.upto lmsBackSpec)

/-- 'valiselaw12.LmsNil', WHERE WHAT IT READS IS OF BULK AT MOST 1048576: true; the input reads as it did. -/
def lmsNilUptoRow : OpenClaim := { program := "ytgcbjfkneigijaa", sum := "06279cde489b5b7160de69309b6e10101c694870d39ce4b0690f58f32ce13c05", func := "valise/valiselaw12.LmsNil", spec := "lmsNil", apart := false, narrowed := true }
def LmsNilUptoSaid : Prop := lmsNilUptoRow.holds Try.pinned (OpenSpec.upto lmsNilSpec)

end Rows
end Go.Proofs.Ytgcbjfkneigijaa
