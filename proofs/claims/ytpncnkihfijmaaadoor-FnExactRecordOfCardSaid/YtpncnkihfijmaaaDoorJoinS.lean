/-
  strings.Join: what it answers (the shelf's contract, laid by hand).
-/
import Derived.Test.YtpncnkihfijmaaaDoorShelf
import Derived.Test.YtpncnkihfijmaaaDoorTextN
namespace Go.Proofs.YtpncnkihfijmaaaDoor
open Go.ChangeShapes Go.WideShapes Go.ChangeAt Go.RowKit Go.ChangeMaps
set_option maxRecDepth 10000
set_option linter.unusedSimpArgs false
set_option linter.unusedVariables false

theorem builderX : Go.Proofs.Builder.Extra Tryd.prog Tryd.lays156_ren := {
  sizeBuilder := by kernel_rfl
  liesBuilder := by kernel_rfl
  t5 := Tryd.underlying5
  a5 := Tryd.isAgg5
  z5 := Tryd.sizeOf5
  v5 := Tryd.zeroValue5
  infoByte := by kernel_rfl
  cellsByte := by kernel_rfl
  sizeByte := by kernel_rfl
  neB5 := by decide }
theorem join_any (bk c : Nat) (xs : List ByteArray) (sep : ByteArray) (w : World) (hc : ∀ (j : Nat) x, xs[j]? = some x → w.cell? ⟨bk, j, none⟩ = some (.string x)) (hb : bk < w.heap.size) (hn : xs.length ≤ 1000) (hcap : xs.length ≤ c)
    (hl : (Lib.join (xs.map (·.data.toList)) sep.data.toList).length ≤ 1000) :
    Calls Tryd.prog 16 #[.slice (some ⟨bk, 0, none⟩) xs.length c, .string sep] w fun e w' => e = .returned (.string ⟨(Lib.join (xs.map (·.data.toList)) sep.data.toList).toArray⟩) ∧ Below w.heap.size w w' :=
  Any.strings_Join Tryd.lays156 builderX bk 0 c xs sep w (fun j x h => by rw [Nat.zero_add]; exact hc j x h) hb (by omega) hcap (by omega)
end Go.Proofs.YtpncnkihfijmaaaDoor
