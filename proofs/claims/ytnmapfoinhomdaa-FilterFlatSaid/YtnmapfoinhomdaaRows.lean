/-
  No cell of these rows narrows 'for every input' (looked for: loops, veiled, ifaces, maps, wideKeys, modest, calm, conditions, laid).
  DERIVED. THE GIVEN ROWS OF THIS SEAT. 5 by the template 'for every input the law returns true; each argument reads behind the call as it read before'; 0 by the template 'total and deterministic' (their statements: YtnmapfoinhomdaaTotals.lean).
  GIVEN WITH THE SEED: the statements are not yours to turn. If you find one false, say at which input.
  Laid BY PROGRAM, IN A SANDBOX (cutbox-rows.mjs): the forced cells as the released guide's own fill.sh prints them over the translation 7231a04f4f84e7ac… (all of the seat's roots in one cut). By AI agents, Wed Nov 11 2026. No macro, syntax, notation, axiom, sorry.
-/
import Derived.Test.YtnmapfoinhomdaaChecked
import GoSem.Claim
import GoSem.ClaimJoined
import GoSem.ClaimMapViews
import Derived.JoinedTies
import Derived.KernelRfl
namespace Go.Proofs.Ytnmapfoinhomdaa
/- THE CELL 'sum', in the pinned program and in every row, IS THE sha256 OF THE DUMP (.gsa) THAT YtnmapfoinhomdaaProg.lean LOADS. Nothing in Lean hashes anything: it is a label: what it is worth is what the hold of that sum in a sandbox is worth. -/
noncomputable def Try.pinned : Pinned := { name := "ytnmapfoinhomdaa", sum := "7231a04f4f84e7ac0d9936022ec01f69fff094f91345764cb3ba94e3b4e11e9f", checked := Try.checked }
namespace Rows
def none {H : Type} : Left H := { results := [], args := [] }

/-- 'valiselaw17.FilterRows': WHATEVER THE INPUT: true; the input reads as it did. -/
def filterRowsSpec : ChangeSpec := { name := "filterRows", fn := fun _ => fun
  | [d1, d2, d3, d4, d5, d6, d7] => { results := [.lit (.bool true)], args := [d1, d2, d3, d4, d5, d6, d7] }
  | _ => none }
def filterRowsRow : OpenClaim := { program := "ytnmapfoinhomdaa", sum := "7231a04f4f84e7ac0d9936022ec01f69fff094f91345764cb3ba94e3b4e11e9f", func := "valise/valiselaw17.FilterRows", spec := "filterRows", unfollowed := true, recurses := true, apart := false }
def FilterRowsSaid : Prop := filterRowsRow.holds Try.pinned (OpenSpec.ofChange filterRowsSpec)

/-- ITS FALSE NEIGHBOUR: 'it returns false'. Refute it at one input. -/
def filterRowsWrong : ChangeSpec := { name := "filterRows", fn := fun _ => fun
  | [d1, d2, d3, d4, d5, d6, d7] => { results := [.lit (.bool false)], args := [d1, d2, d3, d4, d5, d6, d7] }
  | _ => none }
def FilterRowsWrongFalsely : Prop := filterRowsRow.holds Try.pinned (OpenSpec.ofChange filterRowsWrong)

/-- 'valiselaw17.FilterApplies': WHATEVER THE INPUT: true; the input reads as it did. -/
def filterAppliesSpec : ChangeSpec := { name := "filterApplies", fn := fun _ => fun
  | [d1, d2, d3] => { results := [.lit (.bool true)], args := [d1, d2, d3] }
  | _ => none }
def filterAppliesRow : OpenClaim := { program := "ytnmapfoinhomdaa", sum := "7231a04f4f84e7ac0d9936022ec01f69fff094f91345764cb3ba94e3b4e11e9f", func := "valise/valiselaw17.FilterApplies", spec := "filterApplies", unfollowed := true, recurses := true, apart := false }
def FilterAppliesSaid : Prop := filterAppliesRow.holds Try.pinned (OpenSpec.ofChange filterAppliesSpec)

/-- ITS FALSE NEIGHBOUR: 'it returns false'. Refute it at one input. -/
def filterAppliesWrong : ChangeSpec := { name := "filterApplies", fn := fun _ => fun
  | [d1, d2, d3] => { results := [.lit (.bool false)], args := [d1, d2, d3] }
  | _ => none }
def FilterAppliesWrongFalsely : Prop := filterAppliesRow.holds Try.pinned (OpenSpec.ofChange filterAppliesWrong)

/-- 'valiselaw17.FilterBack': WHATEVER THE INPUT: true; the input reads as it did. -/
def filterBackSpec : ChangeSpec := { name := "filterBack", fn := fun _ => fun
  | [d1, d2, d3, d4, d5, d6] => { results := [.lit (.bool true)], args := [d1, d2, d3, d4, d5, d6] }
  | _ => none }
def filterBackRow : OpenClaim := { program := "ytnmapfoinhomdaa", sum := "7231a04f4f84e7ac0d9936022ec01f69fff094f91345764cb3ba94e3b4e11e9f", func := "valise/valiselaw17.FilterBack", spec := "filterBack", unfollowed := true, recurses := true, apart := false }
def FilterBackSaid : Prop := filterBackRow.holds Try.pinned (OpenSpec.ofChange filterBackSpec)

/-- ITS FALSE NEIGHBOUR: 'it returns false'. Refute it at one input. -/
def filterBackWrong : ChangeSpec := { name := "filterBack", fn := fun _ => fun
  | [d1, d2, d3, d4, d5, d6] => { results := [.lit (.bool false)], args := [d1, d2, d3, d4, d5, d6] }
  | _ => none }
def FilterBackWrongFalsely : Prop := filterBackRow.holds Try.pinned (OpenSpec.ofChange filterBackWrong)

/-- 'valiselaw17.FilterPaeth': WHATEVER THE INPUT: true; the input reads as it did. -/
def filterPaethSpec : ChangeSpec := { name := "filterPaeth", fn := fun _ => fun
  | [d1, d2, d3] => { results := [.lit (.bool true)], args := [d1, d2, d3] }
  | _ => none }
def filterPaethRow : OpenClaim := { program := "ytnmapfoinhomdaa", sum := "7231a04f4f84e7ac0d9936022ec01f69fff094f91345764cb3ba94e3b4e11e9f", func := "valise/valiselaw17.FilterPaeth", spec := "filterPaeth", unfollowed := true, recurses := true, apart := false }
def FilterPaethSaid : Prop := filterPaethRow.holds Try.pinned (OpenSpec.ofChange filterPaethSpec)

/-- ITS FALSE NEIGHBOUR: 'it returns false'. Refute it at one input. -/
def filterPaethWrong : ChangeSpec := { name := "filterPaeth", fn := fun _ => fun
  | [d1, d2, d3] => { results := [.lit (.bool false)], args := [d1, d2, d3] }
  | _ => none }
def FilterPaethWrongFalsely : Prop := filterPaethRow.holds Try.pinned (OpenSpec.ofChange filterPaethWrong)

/-- 'valiselaw17.FilterFlat': WHATEVER THE INPUT: true; the input reads as it did. -/
def filterFlatSpec : ChangeSpec := { name := "filterFlat", fn := fun _ => fun
  | [d1, d2] => { results := [.lit (.bool true)], args := [d1, d2] }
  | _ => none }
def filterFlatRow : OpenClaim := { program := "ytnmapfoinhomdaa", sum := "7231a04f4f84e7ac0d9936022ec01f69fff094f91345764cb3ba94e3b4e11e9f", func := "valise/valiselaw17.FilterFlat", spec := "filterFlat", apart := false }
def FilterFlatSaid : Prop := filterFlatRow.holds Try.pinned (OpenSpec.ofChange filterFlatSpec)

/-- ITS FALSE NEIGHBOUR: 'it returns false'. Refute it at one input. -/
def filterFlatWrong : ChangeSpec := { name := "filterFlat", fn := fun _ => fun
  | [d1, d2] => { results := [.lit (.bool false)], args := [d1, d2] }
  | _ => none }
def FilterFlatWrongFalsely : Prop := filterFlatRow.holds Try.pinned (OpenSpec.ofChange filterFlatWrong)

/- THE SECOND FORM. 'bulk': how many values and letters a reading holds, each counted each time it is reached (what is shared counts as often as it is met; a slice's spare places count too). A statement '..UptoSaid' is the law's where the arguments, and the package variables that the reading takes, are together of bulk at most 1048576: NARROWER than '..Said'. Prove '..Said' where nothing that the law and all that it calls make is longer than what came in: it says more and counts as full. Else prove '..UptoSaid'. A law counts once. -/
mutual
def uptoBulk {H : Type} : DataW H → Nat
  | .lit (.string bytes) => bytes.length + 1
  | .lit _ => 1
  | .nil => 1
  | .ptr d => uptoBulk d + 1
  | .slice elems spare => uptoBulkAll elems + uptoBulkAll spare + 1
  | .agg parts => uptoBulkAll parts + 1
  | .iface _ d => uptoBulk d + 1
  | .map entries => uptoBulkEntries entries + 1
  | .held _ => 1
def uptoBulkAll {H : Type} : List (DataW H) → Nat
  | [] => 0
  | d :: r => uptoBulk d + uptoBulkAll r
def uptoBulkEntries {H : Type} : List (Lit × DataW H) → Nat
  | [] => 0
  | x :: r => uptoBulkEntry x + uptoBulkEntries r
def uptoBulkEntry {H : Type} : Lit × DataW H → Nat
  | (.string bytes, d) => bytes.length + uptoBulk d + 1
  | (_, d) => uptoBulk d + 1
 end
def uptoSmall : (H : Type) → List (DataW H) → Bool := fun _ ds => decide (uptoBulkAll ds ≤ 1048576)
def OpenSpec.upto (s : _root_.Go.ChangeSpec) : _root_.Go.OpenSpec := { _root_.Go.OpenSpec.ofChange s with cond := some uptoSmall }

/-- 'valiselaw17.FilterRows', WHERE WHAT IT READS IS OF BULK AT MOST 1048576: true; the input reads as it did. -/
def filterRowsUptoRow : OpenClaim := { program := "ytnmapfoinhomdaa", sum := "7231a04f4f84e7ac0d9936022ec01f69fff094f91345764cb3ba94e3b4e11e9f", func := "valise/valiselaw17.FilterRows", spec := "filterRows", unfollowed := true, recurses := true, apart := false, narrowed := true }
def FilterRowsUptoSaid : Prop := filterRowsUptoRow.holds Try.pinned (OpenSpec.upto filterRowsSpec)

/-- 'valiselaw17.FilterApplies', WHERE WHAT IT READS IS OF BULK AT MOST 1048576: true; the input reads as it did. -/
def filterAppliesUptoRow : OpenClaim := { program := "ytnmapfoinhomdaa", sum := "7231a04f4f84e7ac0d9936022ec01f69fff094f91345764cb3ba94e3b4e11e9f", func := "valise/valiselaw17.FilterApplies", spec := "filterApplies", unfollowed := true, recurses := true, apart := false, narrowed := true }
def FilterAppliesUptoSaid : Prop := filterAppliesUptoRow.holds Try.pinned (OpenSpec.upto filterAppliesSpec)

/-- 'valiselaw17.FilterBack', WHERE WHAT IT READS IS OF BULK AT MOST 1048576: true; the input reads as it did. -/
def filterBackUptoRow : OpenClaim := { program := "ytnmapfoinhomdaa", sum := "7231a04f4f84e7ac0d9936022ec01f69fff094f91345764cb3ba94e3b4e11e9f", func := "valise/valiselaw17.FilterBack", spec := "filterBack", unfollowed := true, recurses := true, apart := false, narrowed := true }
def FilterBackUptoSaid : Prop := filterBackUptoRow.holds Try.pinned (OpenSpec.upto filterBackSpec)

/-- 'valiselaw17.FilterPaeth', WHERE WHAT IT READS IS OF BULK AT MOST 1048576: true; the input reads as it did. -/
def filterPaethUptoRow : OpenClaim := { program := "ytnmapfoinhomdaa", sum := "7231a04f4f84e7ac0d9936022ec01f69fff094f91345764cb3ba94e3b4e11e9f", func := "valise/valiselaw17.FilterPaeth", spec := "filterPaeth", unfollowed := true, recurses := true, apart := false, narrowed := true }
def FilterPaethUptoSaid : Prop := filterPaethUptoRow.holds Try.pinned (OpenSpec.upto filterPaethSpec)

/-- 'valiselaw17.FilterFlat', WHERE WHAT IT READS IS OF BULK AT MOST 1048576: true; the input reads as it did. -/
def filterFlatUptoRow : OpenClaim := { program := "ytnmapfoinhomdaa", sum := "7231a04f4f84e7ac0d9936022ec01f69fff094f91345764cb3ba94e3b4e11e9f", func := "valise/valiselaw17.FilterFlat", spec := "filterFlat", apart := false, narrowed := true }
def FilterFlatUptoSaid : Prop := filterFlatUptoRow.holds Try.pinned (OpenSpec.upto filterFlatSpec)

end Rows
end Go.Proofs.Ytnmapfoinhomdaa
