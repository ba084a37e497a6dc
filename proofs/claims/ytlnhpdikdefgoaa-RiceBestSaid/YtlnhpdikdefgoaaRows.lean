/-
  No cell of these rows narrows 'for every input' (looked for: loops, veiled, ifaces, maps, wideKeys, modest, calm, conditions, laid).
  DERIVED. THE GIVEN ROWS OF THIS SEAT. 5 by the template 'for every input the law returns true; each argument reads behind the call as it read before'; 0 by the template 'total and deterministic' (their statements: YtlnhpdikdefgoaaTotals.lean).
  GIVEN WITH THE SEED: the statements are not yours to turn. If you find one false, say at which input.
  Laid BY PROGRAM, IN A SANDBOX (cutbox-rows.mjs): the forced cells as the released guide's own fill.sh prints them over the translation d6615f545ead14fa… (all of the seat's roots in one cut). By AI agents, Wed Nov 11 2026. No macro, syntax, notation, axiom, sorry.
-/
import Derived.Test.YtlnhpdikdefgoaaChecked
import GoSem.Claim
import GoSem.ClaimJoined
import GoSem.ClaimMapViews
import Derived.JoinedTies
import Derived.KernelRfl
namespace Go.Proofs.Ytlnhpdikdefgoaa
/- THE CELL 'sum', in the pinned program and in every row, IS THE sha256 OF THE DUMP (.gsa) THAT YtlnhpdikdefgoaaProg.lean LOADS. Nothing in Lean hashes anything: it is a label: what it is worth is what the hold of that sum in a sandbox is worth. -/
noncomputable def Try.pinned : Pinned := { name := "ytlnhpdikdefgoaa", sum := "d6615f545ead14fa6c07c3da4d0941673ee4ec2f8b1b3ba2dbc73af6292a17b6", checked := Try.checked }
namespace Rows
def none {H : Type} : Left H := { results := [], args := [] }

/-- 'valiselaw10.RicePacks': WHATEVER THE INPUT: true; the input reads as it did. -/
def ricePacksSpec : ChangeSpec := { name := "ricePacks", fn := fun _ => fun
  | [d1, d2] => { results := [.lit (.bool true)], args := [d1, d2] }
  | _ => none }
def ricePacksRow : OpenClaim := { program := "ytlnhpdikdefgoaa", sum := "d6615f545ead14fa6c07c3da4d0941673ee4ec2f8b1b3ba2dbc73af6292a17b6", func := "valise/valiselaw10.RicePacks", spec := "ricePacks", unfollowed := true, recurses := true, apart := false }
def RicePacksSaid : Prop := ricePacksRow.holds Try.pinned (OpenSpec.ofChange ricePacksSpec)

/-- ITS FALSE NEIGHBOUR: 'it returns false'. Refute it at one input. -/
def ricePacksWrong : ChangeSpec := { name := "ricePacks", fn := fun _ => fun
  | [d1, d2] => { results := [.lit (.bool false)], args := [d1, d2] }
  | _ => none }
def RicePacksWrongFalsely : Prop := ricePacksRow.holds Try.pinned (OpenSpec.ofChange ricePacksWrong)

/-- 'valiselaw10.RiceUnpacks': WHATEVER THE INPUT: true; the input reads as it did. -/
def riceUnpacksSpec : ChangeSpec := { name := "riceUnpacks", fn := fun _ => fun
  | [d1, d2] => { results := [.lit (.bool true)], args := [d1, d2] }
  | _ => none }
def riceUnpacksRow : OpenClaim := { program := "ytlnhpdikdefgoaa", sum := "d6615f545ead14fa6c07c3da4d0941673ee4ec2f8b1b3ba2dbc73af6292a17b6", func := "valise/valiselaw10.RiceUnpacks", spec := "riceUnpacks", unfollowed := true, recurses := true, apart := false }
def RiceUnpacksSaid : Prop := riceUnpacksRow.holds Try.pinned (OpenSpec.ofChange riceUnpacksSpec)

/-- ITS FALSE NEIGHBOUR: 'it returns false'. Refute it at one input. -/
def riceUnpacksWrong : ChangeSpec := { name := "riceUnpacks", fn := fun _ => fun
  | [d1, d2] => { results := [.lit (.bool false)], args := [d1, d2] }
  | _ => none }
def RiceUnpacksWrongFalsely : Prop := riceUnpacksRow.holds Try.pinned (OpenSpec.ofChange riceUnpacksWrong)

/-- 'valiselaw10.RiceBack': WHATEVER THE INPUT: true; the input reads as it did. -/
def riceBackSpec : ChangeSpec := { name := "riceBack", fn := fun _ => fun
  | [d] => { results := [.lit (.bool true)], args := [d] }
  | _ => none }
def riceBackRow : OpenClaim := { program := "ytlnhpdikdefgoaa", sum := "d6615f545ead14fa6c07c3da4d0941673ee4ec2f8b1b3ba2dbc73af6292a17b6", func := "valise/valiselaw10.RiceBack", spec := "riceBack", unfollowed := true, recurses := true, apart := false }
def RiceBackSaid : Prop := riceBackRow.holds Try.pinned (OpenSpec.ofChange riceBackSpec)

/-- ITS FALSE NEIGHBOUR: 'it returns false'. Refute it at one input. -/
def riceBackWrong : ChangeSpec := { name := "riceBack", fn := fun _ => fun
  | [d] => { results := [.lit (.bool false)], args := [d] }
  | _ => none }
def RiceBackWrongFalsely : Prop := riceBackRow.holds Try.pinned (OpenSpec.ofChange riceBackWrong)

/-- 'valiselaw10.RiceBest': WHATEVER THE INPUT: true; the input reads as it did. -/
def riceBestSpec : ChangeSpec := { name := "riceBest", fn := fun _ => fun
  | [d] => { results := [.lit (.bool true)], args := [d] }
  | _ => none }
def riceBestRow : OpenClaim := { program := "ytlnhpdikdefgoaa", sum := "d6615f545ead14fa6c07c3da4d0941673ee4ec2f8b1b3ba2dbc73af6292a17b6", func := "valise/valiselaw10.RiceBest", spec := "riceBest", unfollowed := true, recurses := true, apart := false }
def RiceBestSaid : Prop := riceBestRow.holds Try.pinned (OpenSpec.ofChange riceBestSpec)

/-- ITS FALSE NEIGHBOUR: 'it returns false'. Refute it at one input. -/
def riceBestWrong : ChangeSpec := { name := "riceBest", fn := fun _ => fun
  | [d] => { results := [.lit (.bool false)], args := [d] }
  | _ => none }
def RiceBestWrongFalsely : Prop := riceBestRow.holds Try.pinned (OpenSpec.ofChange riceBestWrong)

/-- 'valiselaw10.RiceCut': WHATEVER THE INPUT: true; the input reads as it did. -/
def riceCutSpec : ChangeSpec := { name := "riceCut", fn := fun _ => fun
  | [d1, d2, d3] => { results := [.lit (.bool true)], args := [d1, d2, d3] }
  | _ => none }
def riceCutRow : OpenClaim := { program := "ytlnhpdikdefgoaa", sum := "d6615f545ead14fa6c07c3da4d0941673ee4ec2f8b1b3ba2dbc73af6292a17b6", func := "valise/valiselaw10.RiceCut", spec := "riceCut", unfollowed := true, recurses := true, apart := false }
def RiceCutSaid : Prop := riceCutRow.holds Try.pinned (OpenSpec.ofChange riceCutSpec)

/-- ITS FALSE NEIGHBOUR: 'it returns false'. Refute it at one input. -/
def riceCutWrong : ChangeSpec := { name := "riceCut", fn := fun _ => fun
  | [d1, d2, d3] => { results := [.lit (.bool false)], args := [d1, d2, d3] }
  | _ => none }
def RiceCutWrongFalsely : Prop := riceCutRow.holds Try.pinned (OpenSpec.ofChange riceCutWrong)

/- THE SECOND FORM. 'bulk': how many values and letters a reading holds, each counted each time it is reached (what is shared counts as often as it is met; a slice's spare places count too). A statement '..UptoSaid' is the law's where the arguments, and the package variables that the reading takes, are together of bulk at most 1048576: NARROWER than '..Said'. Prove '..Said' where nothing that the law and all that it calls make is longer than what came in: it says more and counts as full. Else prove '..UptoSaid'. A law counts once. -/
mutual
def uptoBulk {H : Type} : DataW H → Nat
  | .lit (.string bytes) => bytes.length + 1
  | .lit _ => 1
  | .nil => 1
  | .ptr d => uptoBulk d + 1
  | .slice elems spare => uptoBulkAll elems + uptoBulkAll spare + 1
  | .agg parts => uptoBulkAll parts + 1
  | .iface _ d => uptoBulk d + 1
  | .map entries => uptoBulkEntries entries + 1
  | .held _ => 1
def uptoBulkAll {H : Type} : List (DataW H) → Nat
  | [] => 0
  | d :: r => uptoBulk d + uptoBulkAll r
def uptoBulkEntries {H : Type} : List (Lit × DataW H) → Nat
  | [] => 0
  | x :: r => uptoBulkEntry x + uptoBulkEntries r
def uptoBulkEntry {H : Type} : Lit × DataW H → Nat
  | (.string bytes, d) => bytes.length + uptoBulk d + 1
  | (_, d) => uptoBulk d + 1
 end
def uptoSmall : (H : Type) → List (DataW H) → Bool := fun _ ds => decide (uptoBulkAll ds ≤ 1048576)
def OpenSpec.upto (s : _root_.Go.ChangeSpec) : _root_.Go.OpenSpec := { _root_.Go.OpenSpec.ofChange s with cond := some uptoSmall }

/-- 'valiselaw10.RicePacks', WHERE WHAT IT READS IS OF BULK AT MOST 1048576: true; the input reads as it did. -/
def ricePacksUptoRow : OpenClaim := { program := "ytlnhpdikdefgoaa", sum := "d6615f545ead14fa6c07c3da4d0941673ee4ec2f8b1b3ba2dbc73af6292a17b6", func := "valise/valiselaw10.RicePacks", spec := "ricePacks", unfollowed := true, recurses := true, apart := false, narrowed := true }
def RicePacksUptoSaid : Prop := ricePacksUptoRow.holds Try.pinned (OpenSpec.upto ricePacksSpec)

/-- 'valiselaw10.RiceUnpacks', WHERE WHAT IT READS IS OF BULK AT MOST 1048576: true; the input reads as it did. -/
def riceUnpacksUptoRow : OpenClaim := { program := "ytlnhpdikdefgoaa", sum := "d6615f545ead14fa6c07c3da4d0941673ee4ec2f8b1b3ba2dbc73af6292a17b6", func := "valise/valiselaw10.RiceUnpacks", spec := "riceUnpacks", unfollowed := true, recurses := true, apart := false, narrowed := true }
def RiceUnpacksUptoSaid : Prop := riceUnpacksUptoRow.holds Try.pinned (OpenSpec.upto riceUnpacksSpec)

/-- 'valiselaw10.RiceBack', WHERE WHAT IT READS IS OF BULK AT MOST 1048576: true; the input reads as it did. -/
def riceBackUptoRow : OpenClaim := { program := "ytlnhpdikdefgoaa", sum := "d6615f545ead14fa6c07c3da4d0941673ee4ec2f8b1b3ba2dbc73af6292a17b6", func := "valise/valiselaw10.RiceBack", spec := "riceBack", unfollowed := true, recurses := true, apart := false, narrowed := true }
def RiceBackUptoSaid : Prop := riceBackUptoRow.holds Try.pinned (OpenSpec.upto riceBackSpec)

/-- 'valiselaw10.RiceBest', WHERE WHAT IT READS IS OF BULK AT MOST 1048576: true; the input reads as it did. -/
def riceBestUptoRow : OpenClaim := { program := "ytlnhpdikdefgoaa", sum := "d6615f545ead14fa6c07c3da4d0941673ee4ec2f8b1b3ba2dbc73af6292a17b6", func := "valise/valiselaw10.RiceBest", spec := "riceBest", unfollowed := true, recurses := true, apart := false, narrowed := true }
def RiceBestUptoSaid : Prop := riceBestUptoRow.holds Try.pinned (OpenSpec.upto riceBestSpec)

/-- 'valiselaw10.RiceCut', WHERE WHAT IT READS IS OF BULK AT MOST 1048576: true; the input reads as it did. -/
def riceCutUptoRow : OpenClaim := { program := "ytlnhpdikdefgoaa", sum := "d6615f545ead14fa6c07c3da4d0941673ee4ec2f8b1b3ba2dbc73af6292a17b6", func := "valise/valiselaw10.RiceCut", spec := "riceCut", unfollowed := true, recurses := true, apart := false, narrowed := true }
def RiceCutUptoSaid : Prop := riceCutUptoRow.holds Try.pinned (OpenSpec.upto riceCutSpec)

end Rows
end Go.Proofs.Ytlnhpdikdefgoaa
