/-
  Lists of texts, as cells.
-/
import Derived.Test.YtpncnkihfijmaaaDoorLists
namespace Go.Proofs.YtpncnkihfijmaaaDoor
open Go.ChangeShapes Go.WideShapes Go.ChangeAt Go.RowKit Go.ChangeMaps
set_option maxRecDepth 10000
set_option linter.unusedSimpArgs false
set_option linter.unusedVariables false

def strsC (l : List ByteArray) : List Value := l.map Value.string
theorem strsC_length (l : List ByteArray) : (strsC l).length = l.length := List.length_map _
theorem strsC_append (l m : List ByteArray) : strsC (l ++ m) = strsC l ++ strsC m := List.map_append
theorem strsC_one (l : List ByteArray) : ∀ v ∈ strsC l, v.oneCell' = true := by
  intro v hv
  obtain ⟨x, _, rfl⟩ := List.mem_map.1 hv
  rfl
theorem strsC_at {l : List ByteArray} {i : Nat} {s : ByteArray} (h : l[i]? = some s) : (strsC l)[i]? = some (.string s) := by
  rw [strsC, List.getElem?_map, h]; rfl
theorem strsC_take_succ {l : List ByteArray} {k : Nat} {s : ByteArray} (h : l[k]? = some s) : strsC (l.take (k + 1)) = strsC (l.take k) ++ [.string s] := by
  rw [List.take_add_one, h, strsC_append]
  rfl
theorem Lies.str {w : World} {B n i : Nat} {A : Option Addr} {l : List ByteArray} (h : Lies w B 1 A n (strsC l)) (hi : i < n) :
    ∃ b off s, A = some ⟨b, off, none⟩ ∧ b < B ∧ l[i]? = some s ∧ w.cell? ⟨b, off + i, none⟩ = some (.string s) := by
  obtain ⟨hl, h2⟩ := h
  obtain ⟨b, off, rfl, hb, hc⟩ := h2 (by omega)
  rw [strsC_length] at hl
  have hil : i < l.length := by omega
  exact ⟨b, off, l[i], rfl, hb, List.getElem?_eq_getElem hil, hc _ _ (strsC_at (List.getElem?_eq_getElem hil))⟩

theorem info_str : (Tryd.prog.info? 9).map (fun i => (i.zero, i.size, i.bytes)) = some (some (.string ⟨#[]⟩), 1, 16) := by kernel_rfl
end Go.Proofs.YtpncnkihfijmaaaDoor
