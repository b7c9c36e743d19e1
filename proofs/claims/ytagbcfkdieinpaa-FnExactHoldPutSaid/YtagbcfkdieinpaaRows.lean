/-
  No cell of these rows narrows 'for every input' (looked for: loops, veiled, ifaces, maps, wideKeys, modest, calm, conditions, laid).
  DERIVED. THE GIVEN ROWS OF THIS SEAT. 4 by the template 'for every input the law returns true; each argument reads behind the call as it read before'; 0 by the template 'total and deterministic' (their statements: YtagbcfkdieinpaaTotals.lean).
  GIVEN WITH THE SEED: the statements are not yours to turn. If you find one false, say at which input.
  Laid BY PROGRAM, IN A SANDBOX (cutbox-rows.mjs): the forced cells as the released guide's own fill.sh prints them over the translation 02d1fbd2c7e94c9b… (all of the seat's roots in one cut). By AI agents, Wed Nov 11 2026. No macro, syntax, notation, axiom, sorry.
-/
import Derived.Test.YtagbcfkdieinpaaChecked
import GoSem.Claim
import GoSem.ClaimJoined
import GoSem.ClaimMapViews
import Derived.JoinedTies
import Derived.KernelRfl
namespace Go.Proofs.Ytagbcfkdieinpaa
/- THE CELL 'sum', in the pinned program and in every row, IS THE sha256 OF THE DUMP (.gsa) THAT YtagbcfkdieinpaaProg.lean LOADS. Nothing in Lean hashes anything: it is a label: what it is worth is what the hold of that sum in a sandbox is worth. -/
noncomputable def Try.pinned : Pinned := { name := "ytagbcfkdieinpaa", sum := "02d1fbd2c7e94c9b83afd473f6af15ae55dca4a59c97aa3a05fd4084fe6ca458", checked := Try.checked }
namespace Rows
def none {H : Type} : Left H := { results := [], args := [] }

/-- 'laws.FnExactHoldLess': WHATEVER THE INPUT: true; the input reads as it did. -/
def fnExactHoldLessSpec : ChangeSpec := { name := "fnExactHoldLess", fn := fun _ => fun
  | [d1, d2] => { results := [.lit (.bool true)], args := [d1, d2] }
  | _ => none }
def fnExactHoldLessRow : OpenClaim := { program := "ytagbcfkdieinpaa", sum := "02d1fbd2c7e94c9b83afd473f6af15ae55dca4a59c97aa3a05fd4084fe6ca458", func := "loop.example/g00755/laws.FnExactHoldLess", spec := "fnExactHoldLess", apart := false }
def FnExactHoldLessSaid : Prop := fnExactHoldLessRow.holds Try.pinned (OpenSpec.ofChange fnExactHoldLessSpec)

/-- ITS FALSE NEIGHBOUR: 'it returns false'. Refute it at one input. -/
def fnExactHoldLessWrong : ChangeSpec := { name := "fnExactHoldLess", fn := fun _ => fun
  | [d1, d2] => { results := [.lit (.bool false)], args := [d1, d2] }
  | _ => none }
def FnExactHoldLessWrongFalsely : Prop := fnExactHoldLessRow.holds Try.pinned (OpenSpec.ofChange fnExactHoldLessWrong)

/-- 'laws.FnExactHoldPut': WHATEVER THE INPUT: true; the input reads as it did. -/
def fnExactHoldPutSpec : ChangeSpec := { name := "fnExactHoldPut", fn := fun _ => fun
  | [d1, d2] => { results := [.lit (.bool true)], args := [d1, d2] }
  | _ => none }
def fnExactHoldPutRow : OpenClaim := { program := "ytagbcfkdieinpaa", sum := "02d1fbd2c7e94c9b83afd473f6af15ae55dca4a59c97aa3a05fd4084fe6ca458", func := "loop.example/g00755/laws.FnExactHoldPut", spec := "fnExactHoldPut", inPlace := ["slices.overlaps[loop.example/g00755/impl.Hold]"], unfollowed := true, recurses := true, apart := false }
def FnExactHoldPutSaid : Prop := fnExactHoldPutRow.holds Try.pinned (OpenSpec.ofChange fnExactHoldPutSpec)

/-- ITS FALSE NEIGHBOUR: 'it returns false'. Refute it at one input. -/
def fnExactHoldPutWrong : ChangeSpec := { name := "fnExactHoldPut", fn := fun _ => fun
  | [d1, d2] => { results := [.lit (.bool false)], args := [d1, d2] }
  | _ => none }
def FnExactHoldPutWrongFalsely : Prop := fnExactHoldPutRow.holds Try.pinned (OpenSpec.ofChange fnExactHoldPutWrong)

/-- 'laws.FnExactPnrRight': WHATEVER THE INPUT: true; the input reads as it did. -/
def fnExactPnrRightSpec : ChangeSpec := { name := "fnExactPnrRight", fn := fun _ => fun
  | [d] => { results := [.lit (.bool true)], args := [d] }
  | _ => none }
def fnExactPnrRightRow : OpenClaim := { program := "ytagbcfkdieinpaa", sum := "02d1fbd2c7e94c9b83afd473f6af15ae55dca4a59c97aa3a05fd4084fe6ca458", func := "loop.example/g00755/laws.FnExactPnrRight", spec := "fnExactPnrRight", unfollowed := true, recurses := true, apart := false }
def FnExactPnrRightSaid : Prop := fnExactPnrRightRow.holds Try.pinned (OpenSpec.ofChange fnExactPnrRightSpec)

/-- ITS FALSE NEIGHBOUR: 'it returns false'. Refute it at one input. -/
def fnExactPnrRightWrong : ChangeSpec := { name := "fnExactPnrRight", fn := fun _ => fun
  | [d] => { results := [.lit (.bool false)], args := [d] }
  | _ => none }
def FnExactPnrRightWrongFalsely : Prop := fnExactPnrRightRow.holds Try.pinned (OpenSpec.ofChange fnExactPnrRightWrong)

/-- 'laws.FnExactPnrSame': WHATEVER THE INPUT: true; the input reads as it did. -/
def fnExactPnrSameSpec : ChangeSpec := { name := "fnExactPnrSame", fn := fun _ => fun
  | [d1, d2] => { results := [.lit (.bool true)], args := [d1, d2] }
  | _ => none }
def fnExactPnrSameRow : OpenClaim := { program := "ytagbcfkdieinpaa", sum := "02d1fbd2c7e94c9b83afd473f6af15ae55dca4a59c97aa3a05fd4084fe6ca458", func := "loop.example/g00755/laws.FnExactPnrSame", spec := "fnExactPnrSame", apart := false }
def FnExactPnrSameSaid : Prop := fnExactPnrSameRow.holds Try.pinned (OpenSpec.ofChange fnExactPnrSameSpec)

/-- ITS FALSE NEIGHBOUR: 'it returns false'. Refute it at one input. -/
def fnExactPnrSameWrong : ChangeSpec := { name := "fnExactPnrSame", fn := fun _ => fun
  | [d1, d2] => { results := [.lit (.bool false)], args := [d1, d2] }
  | _ => none }
def FnExactPnrSameWrongFalsely : Prop := fnExactPnrSameRow.holds Try.pinned (OpenSpec.ofChange fnExactPnrSameWrong)

/- THE SECOND FORM. 'bulk': how many values and letters a reading holds, each counted each time it is reached (what is shared counts as often as it is met; a slice's spare places count too). A statement '..UptoSaid' is the law's where the arguments, and the package variables that the reading takes, are together of bulk at most 1048576: NARROWER than '..Said'. Prove '..Said' where nothing that the law and all that it calls make is longer than what came in: it says more and counts as full. Else prove '..UptoSaid'. A law counts once. -/
mutual
def uptoBulk {H : Type} : DataW H → Nat
  | .lit (.string bytes) => bytes.length + 1
  | .lit _ => 1
  | .nil => 1
  | .ptr d => uptoBulk d + 1
  | .slice elems spare => uptoBulkAll elems + uptoBulkAll spare + 1
  | .agg parts => uptoBulkAll parts + 1
  | .iface _ d => uptoBulk d + 1
  | .map entries => uptoBulkEntries entries + 1
  | .held _ => 1
def uptoBulkAll {H : Type} : List (DataW H) → Nat
  | [] => 0
  | d :: r => uptoBulk d + uptoBulkAll r
def uptoBulkEntries {H : Type} : List (Lit × DataW H) → Nat
  | [] => 0
  | x :: r => uptoBulkEntry x + uptoBulkEntries r
def uptoBulkEntry {H : Type} : Lit × DataW H → Nat
  | (.string bytes, d) => bytes.length + uptoBulk d + 1
  | (_, d) => uptoBulk d + 1
 end
def uptoSmall : (H : Type) → List (DataW H) → Bool := fun _ ds => decide (uptoBulkAll ds ≤ 1048576)
def OpenSpec.upto (s : _root_.Go.ChangeSpec) : _root_.Go.OpenSpec := { _root_.Go.OpenSpec.ofChange s with cond := some uptoSmall }

/-- 'laws.FnExactHoldLess', WHERE WHAT IT READS IS OF BULK AT MOST 1048576: true; the input reads as it did. -/
def fnExactHoldLessUptoRow : OpenClaim := { program := "ytagbcfkdieinpaa", sum := "02d1fbd2c7e94c9b83afd473f6af15ae55dca4a59c97aa3a05fd4084fe6ca458", func := "loop.example/g00755/laws.FnExactHoldLess", spec := "fnExactHoldLess", apart := false, narrowed := true }
def FnExactHoldLessUptoSaid : Prop := fnExactHoldLessUptoRow.holds Try.pinned (OpenSpec.upto fnExactHoldLessSpec)

/-- 'laws.FnExactHoldPut', WHERE WHAT IT READS IS OF BULK AT MOST 1048576: true; the input reads as it did. -/
def fnExactHoldPutUptoRow : OpenClaim := { program := "ytagbcfkdieinpaa", sum := "02d1fbd2c7e94c9b83afd473f6af15ae55dca4a59c97aa3a05fd4084fe6ca458", func := "loop.example/g00755/laws.FnExactHoldPut", spec := "fnExactHoldPut", inPlace := ["slices.overlaps[loop.example/g00755/impl.Hold]"], unfollowed := true, recurses := true, apart := false, narrowed := true }
def FnExactHoldPutUptoSaid : Prop := fnExactHoldPutUptoRow.holds Try.pinned (OpenSpec.upto fnExactHoldPutSpec)

/-- 'laws.FnExactPnrRight', WHERE WHAT IT READS IS OF BULK AT MOST 1048576: true; the input reads as it did. -/
def fnExactPnrRightUptoRow : OpenClaim := { program := "ytagbcfkdieinpaa", sum := "02d1fbd2c7e94c9b83afd473f6af15ae55dca4a59c97aa3a05fd4084fe6ca458", func := "loop.example/g00755/laws.FnExactPnrRight", spec := "fnExactPnrRight", unfollowed := true, recurses := true, apart := false, narrowed := true }
def FnExactPnrRightUptoSaid : Prop := fnExactPnrRightUptoRow.holds Try.pinned (OpenSpec.upto fnExactPnrRightSpec)

/-- 'laws.FnExactPnrSame', WHERE WHAT IT READS IS OF BULK AT MOST 1048576: true; the input reads as it did. -/
def fnExactPnrSameUptoRow : OpenClaim := { program := "ytagbcfkdieinpaa", sum := "02d1fbd2c7e94c9b83afd473f6af15ae55dca4a59c97aa3a05fd4084fe6ca458", func := "loop.example/g00755/laws.FnExactPnrSame", spec := "fnExactPnrSame", apart := false, narrowed := true }
def FnExactPnrSameUptoSaid : Prop := fnExactPnrSameUptoRow.holds Try.pinned (OpenSpec.upto fnExactPnrSameSpec)

end Rows
end Go.Proofs.Ytagbcfkdieinpaa
