/-
  No cell of these rows narrows 'for every input' (looked for: loops, veiled, ifaces, maps, wideKeys, modest, calm, conditions, laid).
  DERIVED. THE GIVEN ROWS OF THIS SEAT. 4 by the template 'for every input the law returns true; each argument reads behind the call as it read before'; 0 by the template 'total and deterministic' (their statements: YtjgcanhaelabaaaTotals.lean).
  GIVEN WITH THE SEED: the statements are not yours to turn. If you find one false, say at which input.
  Laid BY PROGRAM, IN A SANDBOX (cutbox-rows.mjs): the forced cells as the released guide's own fill.sh prints them over the translation 3d67c7dea19e52ad… (all of the seat's roots in one cut). By AI agents, Wed Nov 11 2026. No macro, syntax, notation, axiom, sorry.
-/
import Derived.Test.YtjgcanhaelabaaaChecked
import GoSem.Claim
import GoSem.ClaimJoined
import GoSem.ClaimMapViews
import Derived.JoinedTies
import Derived.KernelRfl
namespace Go.Proofs.Ytjgcanhaelabaaa
/- THE CELL 'sum', in the pinned program and in every row, IS THE sha256 OF THE DUMP (.gsa) THAT YtjgcanhaelabaaaProg.lean LOADS. Nothing in Lean hashes anything: it is a label: what it is worth is what the hold of that sum in a sandbox is worth. -/
noncomputable def Try.pinned : Pinned := { name := "ytjgcanhaelabaaa", sum := "3d67c7dea19e52ad74e2ea934c3a71bcccdad29b41e2ef424a65dd0050e73897", checked := Try.checked }
namespace Rows
def none {H : Type} : Left H := { results := [], args := [] }

/-- 'laws.FnExactTokensRight': WHATEVER THE INPUT: true; the input reads as it did. -/
def fnExactTokensRightSpec : ChangeSpec := { name := "fnExactTokensRight", fn := fun _ => fun
  | [d] => { results := [.lit (.bool true)], args := [d] }
  | _ => none }
def fnExactTokensRightRow : OpenClaim := { program := "ytjgcanhaelabaaa", sum := "3d67c7dea19e52ad74e2ea934c3a71bcccdad29b41e2ef424a65dd0050e73897", func := "loop.example/g00755/laws.FnExactTokensRight", spec := "fnExactTokensRight", apart := false }
def FnExactTokensRightSaid : Prop := fnExactTokensRightRow.holds Try.pinned (OpenSpec.ofChange fnExactTokensRightSpec)

/-- ITS FALSE NEIGHBOUR: 'it returns false'. Refute it at one input. -/
def fnExactTokensRightWrong : ChangeSpec := { name := "fnExactTokensRight", fn := fun _ => fun
  | [d] => { results := [.lit (.bool false)], args := [d] }
  | _ => none }
def FnExactTokensRightWrongFalsely : Prop := fnExactTokensRightRow.holds Try.pinned (OpenSpec.ofChange fnExactTokensRightWrong)

/-- 'laws.FnExactIssue': WHATEVER THE INPUT: true; the input reads as it did. -/
def fnExactIssueSpec : ChangeSpec := { name := "fnExactIssue", fn := fun _ => fun
  | [d1, d2, d3, d4] => { results := [.lit (.bool true)], args := [d1, d2, d3, d4] }
  | _ => none }
def fnExactIssueRow : OpenClaim := { program := "ytjgcanhaelabaaa", sum := "3d67c7dea19e52ad74e2ea934c3a71bcccdad29b41e2ef424a65dd0050e73897", func := "loop.example/g00755/laws.FnExactIssue", spec := "fnExactIssue", apart := false }
def FnExactIssueSaid : Prop := fnExactIssueRow.holds Try.pinned (OpenSpec.ofChange fnExactIssueSpec)

/-- ITS FALSE NEIGHBOUR: 'it returns false'. Refute it at one input. -/
def fnExactIssueWrong : ChangeSpec := { name := "fnExactIssue", fn := fun _ => fun
  | [d1, d2, d3, d4] => { results := [.lit (.bool false)], args := [d1, d2, d3, d4] }
  | _ => none }
def FnExactIssueWrongFalsely : Prop := fnExactIssueRow.holds Try.pinned (OpenSpec.ofChange fnExactIssueWrong)

/-- 'laws.FnExactRevoke': WHATEVER THE INPUT: true; the input reads as it did. -/
def fnExactRevokeSpec : ChangeSpec := { name := "fnExactRevoke", fn := fun _ => fun
  | [d1, d2] => { results := [.lit (.bool true)], args := [d1, d2] }
  | _ => none }
def fnExactRevokeRow : OpenClaim := { program := "ytjgcanhaelabaaa", sum := "3d67c7dea19e52ad74e2ea934c3a71bcccdad29b41e2ef424a65dd0050e73897", func := "loop.example/g00755/laws.FnExactRevoke", spec := "fnExactRevoke", unfollowed := true, recurses := true, apart := false }
def FnExactRevokeSaid : Prop := fnExactRevokeRow.holds Try.pinned (OpenSpec.ofChange fnExactRevokeSpec)

/-- ITS FALSE NEIGHBOUR: 'it returns false'. Refute it at one input. -/
def fnExactRevokeWrong : ChangeSpec := { name := "fnExactRevoke", fn := fun _ => fun
  | [d1, d2] => { results := [.lit (.bool false)], args := [d1, d2] }
  | _ => none }
def FnExactRevokeWrongFalsely : Prop := fnExactRevokeRow.holds Try.pinned (OpenSpec.ofChange fnExactRevokeWrong)

/-- 'laws.FnExactShows': WHATEVER THE INPUT: true; the input reads as it did. -/
def fnExactShowsSpec : ChangeSpec := { name := "fnExactShows", fn := fun _ => fun
  | [d1, d2, d3] => { results := [.lit (.bool true)], args := [d1, d2, d3] }
  | _ => none }
def fnExactShowsRow : OpenClaim := { program := "ytjgcanhaelabaaa", sum := "3d67c7dea19e52ad74e2ea934c3a71bcccdad29b41e2ef424a65dd0050e73897", func := "loop.example/g00755/laws.FnExactShows", spec := "fnExactShows", apart := false }
def FnExactShowsSaid : Prop := fnExactShowsRow.holds Try.pinned (OpenSpec.ofChange fnExactShowsSpec)

/-- ITS FALSE NEIGHBOUR: 'it returns false'. Refute it at one input. -/
def fnExactShowsWrong : ChangeSpec := { name := "fnExactShows", fn := fun _ => fun
  | [d1, d2, d3] => { results := [.lit (.bool false)], args := [d1, d2, d3] }
  | _ => none }
def FnExactShowsWrongFalsely : Prop := fnExactShowsRow.holds Try.pinned (OpenSpec.ofChange fnExactShowsWrong)

/- THE SECOND FORM. 'bulk': how many values and letters a reading holds, each counted each time it is reached (what is shared counts as often as it is met; a slice's spare places count too). A statement '..UptoSaid' is the law's where the arguments, and the package variables that the reading takes, are together of bulk at most 1048576: NARROWER than '..Said'. Prove '..Said' where nothing that the law and all that it calls make is longer than what came in: it says more and counts as full. Else prove '..UptoSaid'. A law counts once. -/
mutual
def uptoBulk {H : Type} : DataW H → Nat
  | .lit (.string bytes) => bytes.length + 1
  | .lit _ => 1
  | .nil => 1
  | .ptr d => uptoBulk d + 1
  | .slice elems spare => uptoBulkAll elems + uptoBulkAll spare + 1
  | .agg parts => uptoBulkAll parts + 1
  | .iface _ d => uptoBulk d + 1
  | .map entries => uptoBulkEntries entries + 1
  | .held _ => 1
def uptoBulkAll {H : Type} : List (DataW H) → Nat
  | [] => 0
  | d :: r => uptoBulk d + uptoBulkAll r
def uptoBulkEntries {H : Type} : List (Lit × DataW H) → Nat
  | [] => 0
  | x :: r => uptoBulkEntry x + uptoBulkEntries r
def uptoBulkEntry {H : Type} : Lit × DataW H → Nat
  | (.string bytes, d) => bytes.length + uptoBulk d + 1
  | (_, d) => uptoBulk d + 1
 end
def uptoSmall : (H : Type) → List (DataW H) → Bool := fun _ ds => decide (uptoBulkAll ds ≤ 1048576)
def OpenSpec.upto (s : _root_.Go.ChangeSpec) : _root_.Go.OpenSpec := { _root_.Go.OpenSpec.ofChange s with cond := some uptoSmall }

/-- 'laws.FnExactTokensRight', WHERE WHAT IT READS IS OF BULK AT MOST 1048576: true; the input reads as it did. -/
def fnExactTokensRightUptoRow : OpenClaim := { program := "ytjgcanhaelabaaa", sum := "3d67c7dea19e52ad74e2ea934c3a71bcccdad29b41e2ef424a65dd0050e73897", func := "loop.example/g00755/laws.FnExactTokensRight", spec := "fnExactTokensRight", apart := false, narrowed := true }
def FnExactTokensRightUptoSaid : Prop := fnExactTokensRightUptoRow.holds Try.pinned (OpenSpec.upto fnExactTokensRightSpec)

/-- 'laws.FnExactIssue', WHERE WHAT IT READS IS OF BULK AT MOST 1048576: true; the input reads as it did. -/
def fnExactIssueUptoRow : OpenClaim := { program := "ytjgcanhaelabaaa", sum := "3d67c7dea19e52ad74e2ea934c3a71bcccdad29b41e2ef424a65dd0050e73897", func := "loop.example/g00755/laws.FnExactIssue", spec := "fnExactIssue", apart := false, narrowed := true }
def FnExactIssueUptoSaid : Prop := fnExactIssueUptoRow.holds Try.pinned (OpenSpec.upto fnExactIssueSpec)

/-- 'laws.FnExactRevoke', WHERE WHAT IT READS IS OF BULK AT MOST 1048576: true; the input reads as it did. -/
def fnExactRevokeUptoRow : OpenClaim := { program := "ytjgcanhaelabaaa", sum := "3d67c7dea19e52ad74e2ea934c3a71bcccdad29b41e2ef424a65dd0050e73897", func := "loop.example/g00755/laws.FnExactRevoke", spec := "fnExactRevoke", unfollowed := true, recurses := true, apart := false, narrowed := true }
def FnExactRevokeUptoSaid : Prop := fnExactRevokeUptoRow.holds Try.pinned (OpenSpec.upto fnExactRevokeSpec)

/-- 'laws.FnExactShows', WHERE WHAT IT READS IS OF BULK AT MOST 1048576: true; the input reads as it did. -/
def fnExactShowsUptoRow : OpenClaim := { program := "ytjgcanhaelabaaa", sum := "3d67c7dea19e52ad74e2ea934c3a71bcccdad29b41e2ef424a65dd0050e73897", func := "loop.example/g00755/laws.FnExactShows", spec := "fnExactShows", apart := false, narrowed := true }
def FnExactShowsUptoSaid : Prop := fnExactShowsUptoRow.holds Try.pinned (OpenSpec.upto fnExactShowsSpec)

end Rows
end Go.Proofs.Ytjgcanhaelabaaa
