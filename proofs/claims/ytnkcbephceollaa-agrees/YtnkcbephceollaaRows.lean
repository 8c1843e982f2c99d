/-
  No cell of these rows narrows 'for every input' (looked for: loops, veiled, ifaces, maps, wideKeys, modest, calm, conditions, laid).
  DERIVED. THE GIVEN ROWS OF THIS SEAT. 7 by the template 'for every input the law returns true; each argument reads behind the call as it read before'; 0 by the template 'total and deterministic' (their statements: YtnkcbephceollaaTotals.lean).
  GIVEN WITH THE SEED: the statements are not yours to turn. If you find one false, say at which input.
  Laid BY PROGRAM, IN A SANDBOX (cutbox-rows.mjs): the forced cells as the released guide's own fill.sh prints them over the translation 125e766d2f891b52… (all of the seat's roots in one cut). By AI agents, Wed Nov 11 2026. No macro, syntax, notation, axiom, sorry.
-/
import Derived.Test.YtnkcbephceollaaChecked
import GoSem.Claim
import GoSem.ClaimJoined
import GoSem.ClaimMapViews
import Derived.JoinedTies
import Derived.KernelRfl
namespace Go.Proofs.Ytnkcbephceollaa
/- THE CELL 'sum', in the pinned program and in every row, IS THE sha256 OF THE DUMP (.gsa) THAT YtnkcbephceollaaProg.lean LOADS. Nothing in Lean hashes anything: it is a label: what it is worth is what the hold of that sum in a sandbox is worth. -/
noncomputable def Try.pinned : Pinned := { name := "ytnkcbephceollaa", sum := "125e766d2f891b52bfb319d82dc11a6bbb3acd84b01c376c7e54c46c347087c0", checked := Try.checked }
namespace Rows
def none {H : Type} : Left H := { results := [], args := [] }

/-- 'overlaykeep.Swung': WHATEVER THE INPUT: true; the input reads as it did. -/
def swungSpec : ChangeSpec := { name := "swung", fn := fun _ => fun
  | [d] => { results := [.lit (.bool true)], args := [d] }
  | _ => none }
def swungRow : OpenClaim := { program := "ytnkcbephceollaa", sum := "125e766d2f891b52bfb319d82dc11a6bbb3acd84b01c376c7e54c46c347087c0", func := "overlay/overlaykeep.Swung", spec := "swung", apart := false }
def SwungSaid : Prop := swungRow.holds Try.pinned (OpenSpec.ofChange swungSpec)

/-- ITS FALSE NEIGHBOUR: 'it returns false'. Refute it at one input. -/
def swungWrong : ChangeSpec := { name := "swung", fn := fun _ => fun
  | [d] => { results := [.lit (.bool false)], args := [d] }
  | _ => none }
def SwungWrongFalsely : Prop := swungRow.holds Try.pinned (OpenSpec.ofChange swungWrong)

/-- 'overlaykeep.Boxed': WHATEVER THE INPUT: true; the input reads as it did. -/
def boxedSpec : ChangeSpec := { name := "boxed", fn := fun _ => fun
  | [d1, d2, d3, d4, d5] => { results := [.lit (.bool true)], args := [d1, d2, d3, d4, d5] }
  | _ => none }
def boxedRow : OpenClaim := { program := "ytnkcbephceollaa", sum := "125e766d2f891b52bfb319d82dc11a6bbb3acd84b01c376c7e54c46c347087c0", func := "overlay/overlaykeep.Boxed", spec := "boxed", apart := false }
def BoxedSaid : Prop := boxedRow.holds Try.pinned (OpenSpec.ofChange boxedSpec)

/-- ITS FALSE NEIGHBOUR: 'it returns false'. Refute it at one input. -/
def boxedWrong : ChangeSpec := { name := "boxed", fn := fun _ => fun
  | [d1, d2, d3, d4, d5] => { results := [.lit (.bool false)], args := [d1, d2, d3, d4, d5] }
  | _ => none }
def BoxedWrongFalsely : Prop := boxedRow.holds Try.pinned (OpenSpec.ofChange boxedWrong)

/-- 'overlaykeep.Boxes': WHATEVER THE INPUT: true; the input reads as it did. -/
def boxesSpec : ChangeSpec := { name := "boxes", fn := fun _ => fun
  | [d] => { results := [.lit (.bool true)], args := [d] }
  | _ => none }
def boxesRow : OpenClaim := { program := "ytnkcbephceollaa", sum := "125e766d2f891b52bfb319d82dc11a6bbb3acd84b01c376c7e54c46c347087c0", func := "overlay/overlaykeep.Boxes", spec := "boxes", apart := false }
def BoxesSaid : Prop := boxesRow.holds Try.pinned (OpenSpec.ofChange boxesSpec)

/-- ITS FALSE NEIGHBOUR: 'it returns false'. Refute it at one input. -/
def boxesWrong : ChangeSpec := { name := "boxes", fn := fun _ => fun
  | [d] => { results := [.lit (.bool false)], args := [d] }
  | _ => none }
def BoxesWrongFalsely : Prop := boxesRow.holds Try.pinned (OpenSpec.ofChange boxesWrong)

/-- 'overlaykeep.Formed': WHATEVER THE INPUT: true; the input reads as it did. -/
def formedSpec : ChangeSpec := { name := "formed", fn := fun _ => fun
  | [d1, d2, d3] => { results := [.lit (.bool true)], args := [d1, d2, d3] }
  | _ => none }
def formedRow : OpenClaim := { program := "ytnkcbephceollaa", sum := "125e766d2f891b52bfb319d82dc11a6bbb3acd84b01c376c7e54c46c347087c0", func := "overlay/overlaykeep.Formed", spec := "formed", apart := false }
def FormedSaid : Prop := formedRow.holds Try.pinned (OpenSpec.ofChange formedSpec)

/-- ITS FALSE NEIGHBOUR: 'it returns false'. Refute it at one input. -/
def formedWrong : ChangeSpec := { name := "formed", fn := fun _ => fun
  | [d1, d2, d3] => { results := [.lit (.bool false)], args := [d1, d2, d3] }
  | _ => none }
def FormedWrongFalsely : Prop := formedRow.holds Try.pinned (OpenSpec.ofChange formedWrong)

/-- 'overlaykeep.Parts': WHATEVER THE INPUT: true; the input reads as it did. -/
def partsSpec : ChangeSpec := { name := "parts", fn := fun _ => fun
  | [d1, d2] => { results := [.lit (.bool true)], args := [d1, d2] }
  | _ => none }
def partsRow : OpenClaim := { program := "ytnkcbephceollaa", sum := "125e766d2f891b52bfb319d82dc11a6bbb3acd84b01c376c7e54c46c347087c0", func := "overlay/overlaykeep.Parts", spec := "parts", apart := false }
def PartsSaid : Prop := partsRow.holds Try.pinned (OpenSpec.ofChange partsSpec)

/-- ITS FALSE NEIGHBOUR: 'it returns false'. Refute it at one input. -/
def partsWrong : ChangeSpec := { name := "parts", fn := fun _ => fun
  | [d1, d2] => { results := [.lit (.bool false)], args := [d1, d2] }
  | _ => none }
def PartsWrongFalsely : Prop := partsRow.holds Try.pinned (OpenSpec.ofChange partsWrong)

/-- 'overlaykeep.Agrees': WHATEVER THE INPUT: true; the input reads as it did. -/
def agreesSpec : ChangeSpec := { name := "agrees", fn := fun _ => fun
  | [d1, d2, d3, d4] => { results := [.lit (.bool true)], args := [d1, d2, d3, d4] }
  | _ => none }
def agreesRow : OpenClaim := { program := "ytnkcbephceollaa", sum := "125e766d2f891b52bfb319d82dc11a6bbb3acd84b01c376c7e54c46c347087c0", func := "overlay/overlaykeep.Agrees", spec := "agrees", apart := false }
def AgreesSaid : Prop := agreesRow.holds Try.pinned (OpenSpec.ofChange agreesSpec)

/-- ITS FALSE NEIGHBOUR: 'it returns false'. Refute it at one input. -/
def agreesWrong : ChangeSpec := { name := "agrees", fn := fun _ => fun
  | [d1, d2, d3, d4] => { results := [.lit (.bool false)], args := [d1, d2, d3, d4] }
  | _ => none }
def AgreesWrongFalsely : Prop := agreesRow.holds Try.pinned (OpenSpec.ofChange agreesWrong)

/-- 'overlaykeep.Same': WHATEVER THE INPUT: true; the input reads as it did. -/
def sameSpec : ChangeSpec := { name := "same", fn := fun _ => fun
  | [d1, d2, d3, d4] => { results := [.lit (.bool true)], args := [d1, d2, d3, d4] }
  | _ => none }
def sameRow : OpenClaim := { program := "ytnkcbephceollaa", sum := "125e766d2f891b52bfb319d82dc11a6bbb3acd84b01c376c7e54c46c347087c0", func := "overlay/overlaykeep.Same", spec := "same", apart := false }
def SameSaid : Prop := sameRow.holds Try.pinned (OpenSpec.ofChange sameSpec)

/-- ITS FALSE NEIGHBOUR: 'it returns false'. Refute it at one input. -/
def sameWrong : ChangeSpec := { name := "same", fn := fun _ => fun
  | [d1, d2, d3, d4] => { results := [.lit (.bool false)], args := [d1, d2, d3, d4] }
  | _ => none }
def SameWrongFalsely : Prop := sameRow.holds Try.pinned (OpenSpec.ofChange sameWrong)

/- THE SECOND FORM. 'bulk': how many values and letters a reading holds, each counted each time it is reached (what is shared counts as often as it is met; a slice's spare places count too). A statement '..UptoSaid' is the law's where the arguments, and the package variables that the reading takes, are together of bulk at most 1048576: NARROWER than '..Said'. Prove '..Said' where nothing that the law and all that it calls make is longer than what came in: it says more and counts as full. Else prove '..UptoSaid'. A law counts once. -/
mutual
def uptoBulk {H : Type} : DataW H → Nat
  | .lit (.string bytes) => bytes.length + 1
  | .lit _ => 1
  | .nil => 1
  | .ptr d => uptoBulk d + 1
  | .slice elems spare => uptoBulkAll elems + uptoBulkAll spare + 1
  | .agg parts => uptoBulkAll parts + 1
  | .iface _ d => uptoBulk d + 1
  | .map entries => uptoBulkEntries entries + 1
  | .held _ => 1
def uptoBulkAll {H : Type} : List (DataW H) → Nat
  | [] => 0
  | d :: r => uptoBulk d + uptoBulkAll r
def uptoBulkEntries {H : Type} : List (Lit × DataW H) → Nat
  | [] => 0
  | x :: r => uptoBulkEntry x + uptoBulkEntries r
def uptoBulkEntry {H : Type} : Lit × DataW H → Nat
  | (.string bytes, d) => bytes.length + uptoBulk d + 1
  | (_, d) => uptoBulk d + 1
 end
def uptoSmall : (H : Type) → List (DataW H) → Bool := fun _ ds => decide (uptoBulkAll ds ≤ 1048576)
def OpenSpec.upto (s : _root_.Go.ChangeSpec) : _root_.Go.OpenSpec := { _root_.Go.OpenSpec.ofChange s with cond := some uptoSmall }

/-- 'overlaykeep.Swung', WHERE WHAT IT READS IS OF BULK AT MOST 1048576: true; the input reads as it did. -/
def swungUptoRow : OpenClaim := { program := "ytnkcbephceollaa", sum := "125e766d2f891b52bfb319d82dc11a6bbb3acd84b01c376c7e54c46c347087c0", func := "overlay/overlaykeep.Swung", spec := "swung", apart := false, narrowed := true }
def SwungUptoSaid : Prop := swungUptoRow.holds Try.pinned (OpenSpec.upto swungSpec)

/-- 'overlaykeep.Boxed', WHERE WHAT IT READS IS OF BULK AT MOST 1048576: true; the input reads as it did. -/
def boxedUptoRow : OpenClaim := { program := "ytnkcbephceollaa", sum := "125e766d2f891b52bfb319d82dc11a6bbb3acd84b01c376c7e54c46c347087c0", func := "overlay/overlaykeep.Boxed", spec := "boxed", apart := false, narrowed := true }
def BoxedUptoSaid : Prop := boxedUptoRow.holds Try.pinned (OpenSpec.upto boxedSpec)

/-- 'overlaykeep.Boxes', WHERE WHAT IT READS IS OF BULK AT MOST 1048576: true; the input reads as it did. -/
def boxesUptoRow : OpenClaim := { program := "ytnkcbephceollaa", sum := "125e766d2f891b52bfb319d82dc11a6bbb3acd84b01c376c7e54c46c347087c0", func := "overlay/overlaykeep.Boxes", spec := "boxes", apart := false, narrowed := true }
def BoxesUptoSaid : Prop := boxesUptoRow.holds Try.pinned (OpenSpec.upto boxesSpec)

/-- 'overlaykeep.Formed', WHERE WHAT IT READS IS OF BULK AT MOST 1048576: true; the input reads as it did. -/
def formedUptoRow : OpenClaim := { program := "ytnkcbephceollaa", sum := "125e766d2f891b52bfb319d82dc11a6bbb3acd84b01c376c7e54c46c347087c0", func := "overlay/overlaykeep.Formed", spec := "formed", apart := false, narrowed := true }
def FormedUptoSaid : Prop := formedUptoRow.holds Try.pinned (OpenSpec.upto formedSpec)

/-- 'overlaykeep.Parts', WHERE WHAT IT READS IS OF BULK AT MOST 1048576: true; the input reads as it did. -/
def partsUptoRow : OpenClaim := { program := "ytnkcbephceollaa", sum := "125e766d2f891b52bfb319d82dc11a6bbb3acd84b01c376c7e54c46c347087c0", func := "overlay/overlaykeep.Parts", spec := "parts", apart := false, narrowed := true }
def PartsUptoSaid : Prop := partsUptoRow.holds Try.pinned (OpenSpec.upto partsSpec)

/-- 'overlaykeep.Agrees', WHERE WHAT IT READS IS OF BULK AT MOST 1048576: true; the input reads as it did. -/
def agreesUptoRow : OpenClaim := { program := "ytnkcbephceollaa", sum := "125e766d2f891b52bfb319d82dc11a6bbb3acd84b01c376c7e54c46c347087c0", func := "overlay/overlaykeep.Agrees", spec := "agrees", apart := false, narrowed := true }
def AgreesUptoSaid : Prop := agreesUptoRow.holds Try.pinned (OpenSpec.upto agreesSpec)

/-- 'overlaykeep.Same', WHERE WHAT IT READS IS OF BULK AT MOST 1048576: true; the input reads as it did. -/
def sameUptoRow : OpenClaim := { program := "ytnkcbephceollaa", sum := "125e766d2f891b52bfb319d82dc11a6bbb3acd84b01c376c7e54c46c347087c0", func := "overlay/overlaykeep.Same", spec := "same", apart := false, narrowed := true }
def SameUptoSaid : Prop := sameUptoRow.holds Try.pinned (OpenSpec.upto sameSpec)

end Rows
end Go.Proofs.Ytnkcbephceollaa
