/-
  No cell of these rows narrows 'for every input' (looked for: loops, veiled, ifaces, maps, wideKeys, modest, calm, conditions, laid).
  DERIVED. THE GIVEN ROWS OF THIS SEAT. 3 by the template 'for every input the law returns true; each argument reads behind the call as it read before'; 0 by the template 'total and deterministic' (their statements: YtihlilihipcfaaaTotals.lean).
  GIVEN WITH THE SEED: the statements are not yours to turn. If you find one false, say at which input.
  Laid BY PROGRAM, IN A SANDBOX (cutbox-rows.mjs): the forced cells as the released guide's own fill.sh prints them over the translation 7e5756a6fcd70978… (all of the seat's roots in one cut). By AI agents, Wed Nov 11 2026. No macro, syntax, notation, axiom, sorry.
-/
import Derived.Test.YtihlilihipcfaaaChecked
import GoSem.Claim
import GoSem.ClaimJoined
import GoSem.ClaimMapViews
import Derived.JoinedTies
import Derived.KernelRfl
namespace Go.Proofs.Ytihlilihipcfaaa
/- THE CELL 'sum', in the pinned program and in every row, IS THE sha256 OF THE DUMP (.gsa) THAT YtihlilihipcfaaaProg.lean LOADS. Nothing in Lean hashes anything: it is a label: what it is worth is what the hold of that sum in a sandbox is worth. -/
noncomputable def Try.pinned : Pinned := { name := "ytihlilihipcfaaa", sum := "7e5756a6fcd709785b43930b399d53a9b6f170314e95b697f9de244e9b73b3cf", checked := Try.checked }
namespace Rows
def none {H : Type} : Left H := { results := [], args := [] }

/-- 'laws.FnExactChanges': WHATEVER THE INPUT: true; the input reads as it did. -/
def fnExactChangesSpec : ChangeSpec := { name := "fnExactChanges", fn := fun _ => fun
  | [d] => { results := [.lit (.bool true)], args := [d] }
  | _ => none }
def fnExactChangesRow : OpenClaim := { program := "ytihlilihipcfaaa", sum := "7e5756a6fcd709785b43930b399d53a9b6f170314e95b697f9de244e9b73b3cf", func := "loop.example/g00755/laws.FnExactChanges", spec := "fnExactChanges", apart := false }
def FnExactChangesSaid : Prop := fnExactChangesRow.holds Try.pinned (OpenSpec.ofChange fnExactChangesSpec)

/-- ITS FALSE NEIGHBOUR: 'it returns false'. Refute it at one input. -/
def fnExactChangesWrong : ChangeSpec := { name := "fnExactChanges", fn := fun _ => fun
  | [d] => { results := [.lit (.bool false)], args := [d] }
  | _ => none }
def FnExactChangesWrongFalsely : Prop := fnExactChangesRow.holds Try.pinned (OpenSpec.ofChange fnExactChangesWrong)

/-- 'laws.FnExactReqRight': WHATEVER THE INPUT: true; the input reads as it did. -/
def fnExactReqRightSpec : ChangeSpec := { name := "fnExactReqRight", fn := fun _ => fun
  | [d] => { results := [.lit (.bool true)], args := [d] }
  | _ => none }
def fnExactReqRightRow : OpenClaim := { program := "ytihlilihipcfaaa", sum := "7e5756a6fcd709785b43930b399d53a9b6f170314e95b697f9de244e9b73b3cf", func := "loop.example/g00755/laws.FnExactReqRight", spec := "fnExactReqRight", unfollowed := true, recurses := true, apart := false }
def FnExactReqRightSaid : Prop := fnExactReqRightRow.holds Try.pinned (OpenSpec.ofChange fnExactReqRightSpec)

/-- ITS FALSE NEIGHBOUR: 'it returns false'. Refute it at one input. -/
def fnExactReqRightWrong : ChangeSpec := { name := "fnExactReqRight", fn := fun _ => fun
  | [d] => { results := [.lit (.bool false)], args := [d] }
  | _ => none }
def FnExactReqRightWrongFalsely : Prop := fnExactReqRightRow.holds Try.pinned (OpenSpec.ofChange fnExactReqRightWrong)

/-- 'laws.FnExactPnrRight': WHATEVER THE INPUT: true; the input reads as it did. -/
def fnExactPnrRightSpec : ChangeSpec := { name := "fnExactPnrRight", fn := fun _ => fun
  | [d] => { results := [.lit (.bool true)], args := [d] }
  | _ => none }
def fnExactPnrRightRow : OpenClaim := { program := "ytihlilihipcfaaa", sum := "7e5756a6fcd709785b43930b399d53a9b6f170314e95b697f9de244e9b73b3cf", func := "loop.example/g00755/laws.FnExactPnrRight", spec := "fnExactPnrRight", unfollowed := true, recurses := true, apart := false }
def FnExactPnrRightSaid : Prop := fnExactPnrRightRow.holds Try.pinned (OpenSpec.ofChange fnExactPnrRightSpec)

/-- ITS FALSE NEIGHBOUR: 'it returns false'. Refute it at one input. -/
def fnExactPnrRightWrong : ChangeSpec := { name := "fnExactPnrRight", fn := fun _ => fun
  | [d] => { results := [.lit (.bool false)], args := [d] }
  | _ => none }
def FnExactPnrRightWrongFalsely : Prop := fnExactPnrRightRow.holds Try.pinned (OpenSpec.ofChange fnExactPnrRightWrong)

/- THE SECOND FORM. 'bulk': how many values and letters a reading holds, each counted each time it is reached (what is shared counts as often as it is met; a slice's spare places count too). A statement '..UptoSaid' is the law's where the arguments, and the package variables that the reading takes, are together of bulk at most 1048576: NARROWER than '..Said'. Prove '..Said' where nothing that the law and all that it calls make is longer than what came in: it says more and counts as full. Else prove '..UptoSaid'. A law counts once. -/
mutual
def uptoBulk {H : Type} : DataW H → Nat
  | .lit (.string bytes) => bytes.length + 1
  | .lit _ => 1
  | .nil => 1
  | .ptr d => uptoBulk d + 1
  | .slice elems spare => uptoBulkAll elems + uptoBulkAll spare + 1
  | .agg parts => uptoBulkAll parts + 1
  | .iface _ d => uptoBulk d + 1
  | .map entries => uptoBulkEntries entries + 1
  | .held _ => 1
def uptoBulkAll {H : Type} : List (DataW H) → Nat
  | [] => 0
  | d :: r => uptoBulk d + uptoBulkAll r
def uptoBulkEntries {H : Type} : List (Lit × DataW H) → Nat
  | [] => 0
  | x :: r => uptoBulkEntry x + uptoBulkEntries r
def uptoBulkEntry {H : Type} : Lit × DataW H → Nat
  | (.string bytes, d) => bytes.length + uptoBulk d + 1
  | (_, d) => uptoBulk d + 1
 end
def uptoSmall : (H : Type) → List (DataW H) → Bool := fun _ ds => decide (uptoBulkAll ds ≤ 1048576)
def OpenSpec.upto (s : _root_.Go.ChangeSpec) : _root_.Go.OpenSpec := { _root_.Go.OpenSpec.ofChange s with cond := some uptoSmall }

/-- 'laws.FnExactChanges', WHERE WHAT IT READS IS OF BULK AT MOST 1048576: true; the input reads as it did. -/
def fnExactChangesUptoRow : OpenClaim := { program := "ytihlilihipcfaaa", sum := "7e5756a6fcd709785b43930b399d53a9b6f170314e95b697f9de244e9b73b3cf", func := "loop.example/g00755/laws.FnExactChanges", spec := "fnExactChanges", apart := false, narrowed := true }
def FnExactChangesUptoSaid : Prop := fnExactChangesUptoRow.holds Try.pinned (OpenSpec.upto fnExactChangesSpec)

/-- 'laws.FnExactReqRight', WHERE WHAT IT READS IS OF BULK AT MOST 1048576: true; the input reads as it did. -/
def fnExactReqRightUptoRow : OpenClaim := { program := "ytihlilihipcfaaa", sum := "7e5756a6fcd709785b43930b399d53a9b6f170314e95b697f9de244e9b73b3cf", func := "loop.example/g00755/laws.FnExactReqRight", spec := "fnExactReqRight", unfollowed := true, recurses := true, apart := false, narrowed := true }
def FnExactReqRightUptoSaid : Prop := fnExactReqRightUptoRow.holds Try.pinned (OpenSpec.upto fnExactReqRightSpec)

/-- 'laws.FnExactPnrRight', WHERE WHAT IT READS IS OF BULK AT MOST 1048576: true; the input reads as it did. -/
def fnExactPnrRightUptoRow : OpenClaim := { program := "ytihlilihipcfaaa", sum := "7e5756a6fcd709785b43930b399d53a9b6f170314e95b697f9de244e9b73b3cf", func := "loop.example/g00755/laws.FnExactPnrRight", spec := "fnExactPnrRight", unfollowed := true, recurses := true, apart := false, narrowed := true }
def FnExactPnrRightUptoSaid : Prop := fnExactPnrRightUptoRow.holds Try.pinned (OpenSpec.upto fnExactPnrRightSpec)

end Rows
end Go.Proofs.Ytihlilihipcfaaa
