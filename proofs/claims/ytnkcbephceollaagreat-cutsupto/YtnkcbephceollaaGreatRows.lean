/-
  No cell of these rows narrows 'for every input' (looked for: loops, veiled, ifaces, maps, wideKeys, modest, calm, conditions, laid).
  DERIVED. THE GIVEN ROWS OF THIS SEAT. 5 by the template 'for every input the law returns true; each argument reads behind the call as it read before'; 0 by the template 'total and deterministic' (their statements: YtnkcbephceollaaGreatTotals.lean).
  GIVEN WITH THE SEED: the statements are not yours to turn. If you find one false, say at which input.
  Laid BY PROGRAM, IN A SANDBOX (cutbox-rows.mjs): the forced cells as the released guide's own fill.sh prints them over the translation a21123ca36ae8323… (all of the seat's roots in one cut). By AI agents, Wed Nov 11 2026. No macro, syntax, notation, axiom, sorry.
-/
import Derived.Test.YtnkcbephceollaaGreatChecked
import GoSem.Claim
import GoSem.ClaimJoined
import GoSem.ClaimMapViews
import Derived.JoinedTies
import Derived.KernelRfl
namespace Go.Proofs.YtnkcbephceollaaGreat
/- THE CELL 'sum', in the pinned program and in every row, IS THE sha256 OF THE DUMP (.gsa) THAT YtnkcbephceollaaGreatProg.lean LOADS. Nothing in Lean hashes anything: it is a label: what it is worth is what the hold of that sum in a sandbox is worth. -/
noncomputable def Tryz.pinned : Pinned := { name := "ytnkcbephceollaagreat", sum := "a21123ca36ae832390480bb2a6853609d65fd77125fc7ae378d51d574265c357", checked := Tryz.checked }
namespace Rows
def none {H : Type} : Left H := { results := [], args := [] }

/-- 'overlaylaw.Meets': WHATEVER THE INPUT: true; the input reads as it did. -/
def meetsSpec : ChangeSpec := { name := "meets", fn := fun _ => fun
  | [d] => { results := [.lit (.bool true)], args := [d] }
  | _ => none }
def meetsRow : OpenClaim := { program := "ytnkcbephceollaagreat", sum := "a21123ca36ae832390480bb2a6853609d65fd77125fc7ae378d51d574265c357", func := "overlay/overlaylaw.Meets", spec := "meets", apart := false }
def MeetsSaid : Prop := meetsRow.holds Tryz.pinned (OpenSpec.ofChange meetsSpec)

/-- ITS FALSE NEIGHBOUR: 'it returns false'. Refute it at one input. -/
def meetsWrong : ChangeSpec := { name := "meets", fn := fun _ => fun
  | [d] => { results := [.lit (.bool false)], args := [d] }
  | _ => none }
def MeetsWrongFalsely : Prop := meetsRow.holds Tryz.pinned (OpenSpec.ofChange meetsWrong)

/-- 'overlaylaw.Checks': WHATEVER THE INPUT: true; the input reads as it did. -/
def checksSpec : ChangeSpec := { name := "checks", fn := fun _ => fun
  | [d] => { results := [.lit (.bool true)], args := [d] }
  | _ => none }
def checksRow : OpenClaim := { program := "ytnkcbephceollaagreat", sum := "a21123ca36ae832390480bb2a6853609d65fd77125fc7ae378d51d574265c357", func := "overlay/overlaylaw.Checks", spec := "checks", apart := false }
def ChecksSaid : Prop := checksRow.holds Tryz.pinned (OpenSpec.ofChange checksSpec)

/-- ITS FALSE NEIGHBOUR: 'it returns false'. Refute it at one input. -/
def checksWrong : ChangeSpec := { name := "checks", fn := fun _ => fun
  | [d] => { results := [.lit (.bool false)], args := [d] }
  | _ => none }
def ChecksWrongFalsely : Prop := checksRow.holds Tryz.pinned (OpenSpec.ofChange checksWrong)

/-- 'overlaylaw.Locates': WHATEVER THE INPUT: true; the input reads as it did. -/
def locatesSpec : ChangeSpec := { name := "locates", fn := fun _ => fun
  | [d] => { results := [.lit (.bool true)], args := [d] }
  | _ => none }
def locatesRow : OpenClaim := { program := "ytnkcbephceollaagreat", sum := "a21123ca36ae832390480bb2a6853609d65fd77125fc7ae378d51d574265c357", func := "overlay/overlaylaw.Locates", spec := "locates", apart := false }
def LocatesSaid : Prop := locatesRow.holds Tryz.pinned (OpenSpec.ofChange locatesSpec)

/-- ITS FALSE NEIGHBOUR: 'it returns false'. Refute it at one input. -/
def locatesWrong : ChangeSpec := { name := "locates", fn := fun _ => fun
  | [d] => { results := [.lit (.bool false)], args := [d] }
  | _ => none }
def LocatesWrongFalsely : Prop := locatesRow.holds Tryz.pinned (OpenSpec.ofChange locatesWrong)

/-- 'overlaylaw.Cuts': WHATEVER THE INPUT: true; the input reads as it did. -/
def cutsSpec : ChangeSpec := { name := "cuts", fn := fun _ => fun
  | [d] => { results := [.lit (.bool true)], args := [d] }
  | _ => none }
def cutsRow : OpenClaim := { program := "ytnkcbephceollaagreat", sum := "a21123ca36ae832390480bb2a6853609d65fd77125fc7ae378d51d574265c357", func := "overlay/overlaylaw.Cuts", spec := "cuts", apart := false }
def CutsSaid : Prop := cutsRow.holds Tryz.pinned (OpenSpec.ofChange cutsSpec)

/-- ITS FALSE NEIGHBOUR: 'it returns false'. Refute it at one input. -/
def cutsWrong : ChangeSpec := { name := "cuts", fn := fun _ => fun
  | [d] => { results := [.lit (.bool false)], args := [d] }
  | _ => none }
def CutsWrongFalsely : Prop := cutsRow.holds Tryz.pinned (OpenSpec.ofChange cutsWrong)

/-- 'overlaylaw.Clips': WHATEVER THE INPUT: true; the input reads as it did. -/
def clipsSpec : ChangeSpec := { name := "clips", fn := fun _ => fun
  | [d] => { results := [.lit (.bool true)], args := [d] }
  | _ => none }
def clipsRow : OpenClaim := { program := "ytnkcbephceollaagreat", sum := "a21123ca36ae832390480bb2a6853609d65fd77125fc7ae378d51d574265c357", func := "overlay/overlaylaw.Clips", spec := "clips", apart := false }
def ClipsSaid : Prop := clipsRow.holds Tryz.pinned (OpenSpec.ofChange clipsSpec)

/-- ITS FALSE NEIGHBOUR: 'it returns false'. Refute it at one input. -/
def clipsWrong : ChangeSpec := { name := "clips", fn := fun _ => fun
  | [d] => { results := [.lit (.bool false)], args := [d] }
  | _ => none }
def ClipsWrongFalsely : Prop := clipsRow.holds Tryz.pinned (OpenSpec.ofChange clipsWrong)

/- THE SECOND FORM. 'bulk': how many values and letters a reading holds, each counted each time it is reached (what is shared counts as often as it is met; a slice's spare places count too). A statement '..UptoSaid' is the law's where the arguments, and the package variables that the reading takes, are together of bulk at most 1048576: NARROWER than '..Said'. Prove '..Said' where nothing that the law and all that it calls make is longer than what came in: it says more and counts as full. Else prove '..UptoSaid'. A law counts once. -/
mutual
def uptoBulk {H : Type} : DataW H → Nat
  | .lit (.string bytes) => bytes.length + 1
  | .lit _ => 1
  | .nil => 1
  | .ptr d => uptoBulk d + 1
  | .slice elems spare => uptoBulkAll elems + uptoBulkAll spare + 1
  | .agg parts => uptoBulkAll parts + 1
  | .iface _ d => uptoBulk d + 1
  | .map entries => uptoBulkEntries entries + 1
  | .held _ => 1
def uptoBulkAll {H : Type} : List (DataW H) → Nat
  | [] => 0
  | d :: r => uptoBulk d + uptoBulkAll r
def uptoBulkEntries {H : Type} : List (Lit × DataW H) → Nat
  | [] => 0
  | x :: r => uptoBulkEntry x + uptoBulkEntries r
def uptoBulkEntry {H : Type} : Lit × DataW H → Nat
  | (.string bytes, d) => bytes.length + uptoBulk d + 1
  | (_, d) => uptoBulk d + 1
 end
def uptoSmall : (H : Type) → List (DataW H) → Bool := fun _ ds => decide (uptoBulkAll ds ≤ 1048576)
def OpenSpec.upto (s : _root_.Go.ChangeSpec) : _root_.Go.OpenSpec := { _root_.Go.OpenSpec.ofChange s with cond := some uptoSmall }

/-- 'overlaylaw.Meets', WHERE WHAT IT READS IS OF BULK AT MOST 1048576: true; the input reads as it did. -/
def meetsUptoRow : OpenClaim := { program := "ytnkcbephceollaagreat", sum := "a21123ca36ae832390480bb2a6853609d65fd77125fc7ae378d51d574265c357", func := "overlay/overlaylaw.Meets", spec := "meets", apart := false, narrowed := true }
def MeetsUptoSaid : Prop := meetsUptoRow.holds Tryz.pinned (OpenSpec.upto meetsSpec)

/-- 'overlaylaw.Checks', WHERE WHAT IT READS IS OF BULK AT MOST 1048576: true; the input reads as it did. -/
def checksUptoRow : OpenClaim := { program := "ytnkcbephceollaagreat", sum := "a21123ca36ae832390480bb2a6853609d65fd77125fc7ae378d51d574265c357", func := "overlay/overlaylaw.Checks", spec := "checks", apart := false, narrowed := true }
def ChecksUptoSaid : Prop := checksUptoRow.holds Tryz.pinned (OpenSpec.upto checksSpec)

/-- 'overlaylaw.Locates', WHERE WHAT IT READS IS OF BULK AT MOST 1048576: true; the input reads as it did. -/
def locatesUptoRow : OpenClaim := { program := "ytnkcbephceollaagreat", sum := "a21123ca36ae832390480bb2a6853609d65fd77125fc7ae378d51d574265c357", func := "overlay/overlaylaw.Locates", spec := "locates", apart := false, narrowed := true }
def LocatesUptoSaid : Prop := locatesUptoRow.holds Tryz.pinned (OpenSpec.upto locatesSpec)

/-- 'overlaylaw.Cuts', WHERE WHAT IT READS IS OF BULK AT MOST 1048576: true; the input reads as it did. -/
def cutsUptoRow : OpenClaim := { program := "ytnkcbephceollaagreat", sum := "a21123ca36ae832390480bb2a6853609d65fd77125fc7ae378d51d574265c357", func := "overlay/overlaylaw.Cuts", spec := "cuts", apart := false, narrowed := true }
def CutsUptoSaid : Prop := cutsUptoRow.holds Tryz.pinned (OpenSpec.upto cutsSpec)

/-- 'overlaylaw.Clips', WHERE WHAT IT READS IS OF BULK AT MOST 1048576: true; the input reads as it did. -/
def clipsUptoRow : OpenClaim := { program := "ytnkcbephceollaagreat", sum := "a21123ca36ae832390480bb2a6853609d65fd77125fc7ae378d51d574265c357", func := "overlay/overlaylaw.Clips", spec := "clips", apart := false, narrowed := true }
def ClipsUptoSaid : Prop := clipsUptoRow.holds Tryz.pinned (OpenSpec.upto clipsSpec)

end Rows
end Go.Proofs.YtnkcbephceollaaGreat
