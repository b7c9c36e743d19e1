/-
  No cell of these rows narrows 'for every input' (looked for: loops, veiled, ifaces, maps, wideKeys, modest, calm, conditions, laid).
  DERIVED. THE GIVEN ROWS OF THIS SEAT. 6 by the template 'for every input the law returns true; each argument reads behind the call as it read before'; 0 by the template 'total and deterministic' (their statements: YtjejdfmeclbjeaaTotals.lean).
  GIVEN WITH THE SEED: the statements are not yours to turn. If you find one false, say at which input.
  Laid BY PROGRAM, IN A SANDBOX (cutbox-rows.mjs): the forced cells as the released guide's own fill.sh prints them over the translation 80988298235265f4… (all of the seat's roots in one cut). By AI agents, Wed Nov 11 2026. No macro, syntax, notation, axiom, sorry.
-/
import Derived.Test.YtjejdfmeclbjeaaChecked
import GoSem.Claim
import GoSem.ClaimJoined
import GoSem.ClaimMapViews
import Derived.JoinedTies
import Derived.KernelRfl
namespace Go.Proofs.Ytjejdfmeclbjeaa
/- THE CELL 'sum', in the pinned program and in every row, IS THE sha256 OF THE DUMP (.gsa) THAT YtjejdfmeclbjeaaProg.lean LOADS. Nothing in Lean hashes anything: it is a label: what it is worth is what the hold of that sum in a sandbox is worth. -/
noncomputable def Try.pinned : Pinned := { name := "ytjejdfmeclbjeaa", sum := "80988298235265f4410e474a1d547bae553c623885ec9755bb0b9fd9578c52e6", checked := Try.checked }
namespace Rows
def none {H : Type} : Left H := { results := [], args := [] }

/-- 'laws.FnExactWordRight': WHATEVER THE INPUT: true; the input reads as it did. -/
def fnExactWordRightSpec : ChangeSpec := { name := "fnExactWordRight", fn := fun _ => fun
  | [d] => { results := [.lit (.bool true)], args := [d] }
  | _ => none }
def fnExactWordRightRow : OpenClaim := { program := "ytjejdfmeclbjeaa", sum := "80988298235265f4410e474a1d547bae553c623885ec9755bb0b9fd9578c52e6", func := "loop.example/g00755/laws.FnExactWordRight", spec := "fnExactWordRight", plainKeys := false, apart := false }
def FnExactWordRightSaid : Prop := fnExactWordRightRow.holds Try.pinned (OpenSpec.ofChange fnExactWordRightSpec)

/-- ITS FALSE NEIGHBOUR: 'it returns false'. Refute it at one input. -/
def fnExactWordRightWrong : ChangeSpec := { name := "fnExactWordRight", fn := fun _ => fun
  | [d] => { results := [.lit (.bool false)], args := [d] }
  | _ => none }
def FnExactWordRightWrongFalsely : Prop := fnExactWordRightRow.holds Try.pinned (OpenSpec.ofChange fnExactWordRightWrong)

/-- 'laws.FnExactFlightRight': WHATEVER THE INPUT: true; the input reads as it did. -/
def fnExactFlightRightSpec : ChangeSpec := { name := "fnExactFlightRight", fn := fun _ => fun
  | [d] => { results := [.lit (.bool true)], args := [d] }
  | _ => none }
def fnExactFlightRightRow : OpenClaim := { program := "ytjejdfmeclbjeaa", sum := "80988298235265f4410e474a1d547bae553c623885ec9755bb0b9fd9578c52e6", func := "loop.example/g00755/laws.FnExactFlightRight", spec := "fnExactFlightRight", plainKeys := false, apart := false }
def FnExactFlightRightSaid : Prop := fnExactFlightRightRow.holds Try.pinned (OpenSpec.ofChange fnExactFlightRightSpec)

/-- ITS FALSE NEIGHBOUR: 'it returns false'. Refute it at one input. -/
def fnExactFlightRightWrong : ChangeSpec := { name := "fnExactFlightRight", fn := fun _ => fun
  | [d] => { results := [.lit (.bool false)], args := [d] }
  | _ => none }
def FnExactFlightRightWrongFalsely : Prop := fnExactFlightRightRow.holds Try.pinned (OpenSpec.ofChange fnExactFlightRightWrong)

/-- 'laws.FnExactSeatRight': WHATEVER THE INPUT: true; the input reads as it did. -/
def fnExactSeatRightSpec : ChangeSpec := { name := "fnExactSeatRight", fn := fun _ => fun
  | [d] => { results := [.lit (.bool true)], args := [d] }
  | _ => none }
def fnExactSeatRightRow : OpenClaim := { program := "ytjejdfmeclbjeaa", sum := "80988298235265f4410e474a1d547bae553c623885ec9755bb0b9fd9578c52e6", func := "loop.example/g00755/laws.FnExactSeatRight", spec := "fnExactSeatRight", plainKeys := false, apart := false }
def FnExactSeatRightSaid : Prop := fnExactSeatRightRow.holds Try.pinned (OpenSpec.ofChange fnExactSeatRightSpec)

/-- ITS FALSE NEIGHBOUR: 'it returns false'. Refute it at one input. -/
def fnExactSeatRightWrong : ChangeSpec := { name := "fnExactSeatRight", fn := fun _ => fun
  | [d] => { results := [.lit (.bool false)], args := [d] }
  | _ => none }
def FnExactSeatRightWrongFalsely : Prop := fnExactSeatRightRow.holds Try.pinned (OpenSpec.ofChange fnExactSeatRightWrong)

/-- 'laws.FnExactSeatIn': WHATEVER THE INPUT: true; the input reads as it did. -/
def fnExactSeatInSpec : ChangeSpec := { name := "fnExactSeatIn", fn := fun _ => fun
  | [d1, d2] => { results := [.lit (.bool true)], args := [d1, d2] }
  | _ => none }
def fnExactSeatInRow : OpenClaim := { program := "ytjejdfmeclbjeaa", sum := "80988298235265f4410e474a1d547bae553c623885ec9755bb0b9fd9578c52e6", func := "loop.example/g00755/laws.FnExactSeatIn", spec := "fnExactSeatIn", plainKeys := false, apart := false }
def FnExactSeatInSaid : Prop := fnExactSeatInRow.holds Try.pinned (OpenSpec.ofChange fnExactSeatInSpec)

/-- ITS FALSE NEIGHBOUR: 'it returns false'. Refute it at one input. -/
def fnExactSeatInWrong : ChangeSpec := { name := "fnExactSeatIn", fn := fun _ => fun
  | [d1, d2] => { results := [.lit (.bool false)], args := [d1, d2] }
  | _ => none }
def FnExactSeatInWrongFalsely : Prop := fnExactSeatInRow.holds Try.pinned (OpenSpec.ofChange fnExactSeatInWrong)

/-- 'laws.FnExactSeatNo': WHATEVER THE INPUT: true; the input reads as it did. -/
def fnExactSeatNoSpec : ChangeSpec := { name := "fnExactSeatNo", fn := fun _ => fun
  | [d1, d2] => { results := [.lit (.bool true)], args := [d1, d2] }
  | _ => none }
def fnExactSeatNoRow : OpenClaim := { program := "ytjejdfmeclbjeaa", sum := "80988298235265f4410e474a1d547bae553c623885ec9755bb0b9fd9578c52e6", func := "loop.example/g00755/laws.FnExactSeatNo", spec := "fnExactSeatNo", plainKeys := false, apart := false }
def FnExactSeatNoSaid : Prop := fnExactSeatNoRow.holds Try.pinned (OpenSpec.ofChange fnExactSeatNoSpec)

/-- ITS FALSE NEIGHBOUR: 'it returns false'. Refute it at one input. -/
def fnExactSeatNoWrong : ChangeSpec := { name := "fnExactSeatNo", fn := fun _ => fun
  | [d1, d2] => { results := [.lit (.bool false)], args := [d1, d2] }
  | _ => none }
def FnExactSeatNoWrongFalsely : Prop := fnExactSeatNoRow.holds Try.pinned (OpenSpec.ofChange fnExactSeatNoWrong)

/-- 'laws.FnExactSeatAt': WHATEVER THE INPUT: true; the input reads as it did. -/
def fnExactSeatAtSpec : ChangeSpec := { name := "fnExactSeatAt", fn := fun _ => fun
  | [d1, d2] => { results := [.lit (.bool true)], args := [d1, d2] }
  | _ => none }
def fnExactSeatAtRow : OpenClaim := { program := "ytjejdfmeclbjeaa", sum := "80988298235265f4410e474a1d547bae553c623885ec9755bb0b9fd9578c52e6", func := "loop.example/g00755/laws.FnExactSeatAt", spec := "fnExactSeatAt", plainKeys := false, apart := false }
def FnExactSeatAtSaid : Prop := fnExactSeatAtRow.holds Try.pinned (OpenSpec.ofChange fnExactSeatAtSpec)

/-- ITS FALSE NEIGHBOUR: 'it returns false'. Refute it at one input. -/
def fnExactSeatAtWrong : ChangeSpec := { name := "fnExactSeatAt", fn := fun _ => fun
  | [d1, d2] => { results := [.lit (.bool false)], args := [d1, d2] }
  | _ => none }
def FnExactSeatAtWrongFalsely : Prop := fnExactSeatAtRow.holds Try.pinned (OpenSpec.ofChange fnExactSeatAtWrong)

/- THE SECOND FORM. 'bulk': how many values and letters a reading holds, each counted each time it is reached (what is shared counts as often as it is met; a slice's spare places count too). A statement '..UptoSaid' is the law's where the arguments, and the package variables that the reading takes, are together of bulk at most 1048576: NARROWER than '..Said'. Prove '..Said' where nothing that the law and all that it calls make is longer than what came in: it says more and counts as full. Else prove '..UptoSaid'. A law counts once. -/
mutual
def uptoBulk {H : Type} : DataW H → Nat
  | .lit (.string bytes) => bytes.length + 1
  | .lit _ => 1
  | .nil => 1
  | .ptr d => uptoBulk d + 1
  | .slice elems spare => uptoBulkAll elems + uptoBulkAll spare + 1
  | .agg parts => uptoBulkAll parts + 1
  | .iface _ d => uptoBulk d + 1
  | .map entries => uptoBulkEntries entries + 1
  | .held _ => 1
def uptoBulkAll {H : Type} : List (DataW H) → Nat
  | [] => 0
  | d :: r => uptoBulk d + uptoBulkAll r
def uptoBulkEntries {H : Type} : List (Lit × DataW H) → Nat
  | [] => 0
  | x :: r => uptoBulkEntry x + uptoBulkEntries r
def uptoBulkEntry {H : Type} : Lit × DataW H → Nat
  | (.string bytes, d) => bytes.length + uptoBulk d + 1
  | (_, d) => uptoBulk d + 1
 end
def uptoSmall : (H : Type) → List (DataW H) → Bool := fun _ ds => decide (uptoBulkAll ds ≤ 1048576)
def OpenSpec.upto (s : _root_.Go.ChangeSpec) : _root_.Go.OpenSpec := { _root_.Go.OpenSpec.ofChange s with cond := some uptoSmall }

/-- 'laws.FnExactWordRight', WHERE WHAT IT READS IS OF BULK AT MOST 1048576: true; the input reads as it did. -/
def fnExactWordRightUptoRow : OpenClaim := { program := "ytjejdfmeclbjeaa", sum := "80988298235265f4410e474a1d547bae553c623885ec9755bb0b9fd9578c52e6", func := "loop.example/g00755/laws.FnExactWordRight", spec := "fnExactWordRight", plainKeys := false, apart := false, narrowed := true }
def FnExactWordRightUptoSaid : Prop := fnExactWordRightUptoRow.holds Try.pinned (OpenSpec.upto fnExactWordRightSpec)

/-- 'laws.FnExactFlightRight', WHERE WHAT IT READS IS OF BULK AT MOST 1048576: true; the input reads as it did. -/
def fnExactFlightRightUptoRow : OpenClaim := { program := "ytjejdfmeclbjeaa", sum := "80988298235265f4410e474a1d547bae553c623885ec9755bb0b9fd9578c52e6", func := "loop.example/g00755/laws.FnExactFlightRight", spec := "fnExactFlightRight", plainKeys := false, apart := false, narrowed := true }
def FnExactFlightRightUptoSaid : Prop := fnExactFlightRightUptoRow.holds Try.pinned (OpenSpec.upto fnExactFlightRightSpec)

/-- 'laws.FnExactSeatRight', WHERE WHAT IT READS IS OF BULK AT MOST 1048576: true; the input reads as it did. -/
def fnExactSeatRightUptoRow : OpenClaim := { program := "ytjejdfmeclbjeaa", sum := "80988298235265f4410e474a1d547bae553c623885ec9755bb0b9fd9578c52e6", func := "loop.example/g00755/laws.FnExactSeatRight", spec := "fnExactSeatRight", plainKeys := false, apart := false, narrowed := true }
def FnExactSeatRightUptoSaid : Prop := fnExactSeatRightUptoRow.holds Try.pinned (OpenSpec.upto fnExactSeatRightSpec)

/-- 'laws.FnExactSeatIn', WHERE WHAT IT READS IS OF BULK AT MOST 1048576: true; the input reads as it did. -/
def fnExactSeatInUptoRow : OpenClaim := { program := "ytjejdfmeclbjeaa", sum := "80988298235265f4410e474a1d547bae553c623885ec9755bb0b9fd9578c52e6", func := "loop.example/g00755/laws.FnExactSeatIn", spec := "fnExactSeatIn", plainKeys := false, apart := false, narrowed := true }
def FnExactSeatInUptoSaid : Prop := fnExactSeatInUptoRow.holds Try.pinned (OpenSpec.upto fnExactSeatInSpec)

/-- 'laws.FnExactSeatNo', WHERE WHAT IT READS IS OF BULK AT MOST 1048576: true; the input reads as it did. -/
def fnExactSeatNoUptoRow : OpenClaim := { program := "ytjejdfmeclbjeaa", sum := "80988298235265f4410e474a1d547bae553c623885ec9755bb0b9fd9578c52e6", func := "loop.example/g00755/laws.FnExactSeatNo", spec := "fnExactSeatNo", plainKeys := false, apart := false, narrowed := true }
def FnExactSeatNoUptoSaid : Prop := fnExactSeatNoUptoRow.holds Try.pinned (OpenSpec.upto fnExactSeatNoSpec)

/-- 'laws.FnExactSeatAt', WHERE WHAT IT READS IS OF BULK AT MOST 1048576: true; the input reads as it did. -/
def fnExactSeatAtUptoRow : OpenClaim := { program := "ytjejdfmeclbjeaa", sum := "80988298235265f4410e474a1d547bae553c623885ec9755bb0b9fd9578c52e6", func := "loop.example/g00755/laws.FnExactSeatAt", spec := "fnExactSeatAt", plainKeys := false, apart := false, narrowed := true }
def FnExactSeatAtUptoSaid : Prop := fnExactSeatAtUptoRow.holds Try.pinned (OpenSpec.upto fnExactSeatAtSpec)

end Rows
end Go.Proofs.Ytjejdfmeclbjeaa
