/-
  Tokens in a map by their numbers: is one there, one struck, how many, which numbers.
-/
import Derived.Test.YtjgcanhaelabaaaDoorTokRev
import Derived.Lib.SlKeysI
namespace Go.Proofs.YtjgcanhaelabaaaDoor
open Go.ChangeShapes Go.WideShapes Go.ChangeAt Go.RowKit Go.ChangeMaps Go.Maps
set_option maxRecDepth 10000
set_option linter.unusedSimpArgs false
set_option linter.unusedVariables false

theorem mapD_size (l : List TK) : Maps.size (mapD l) = l.length := by simp [mapD, Maps.size_eq]
theorem ent_same (y : TK) (no : Int) : (ent y).1.sameKey (.int .i64 no) = (y.n == no) := by
  rw [ent, sameKey_int, Bool.eq_iff_iff]
  simp
theorem mapD_has (l : List TK) (no : Int) : Maps.has (mapD l) (.int .i64 no) = l.any (fun x => x.n == no) := by
  rw [mapD, Maps.has_eq, List.any_map]
  congr 1
  funext y
  exact ent_same y no
theorem mapD_del (l : List TK) (no : Int) : (mapD l).del (.int .i64 no) = mapD (keepNo l no) := by
  show DataW.map ((l.map ent).filter fun p => !p.1.sameKey (.int .i64 no)) = _
  rw [mapD, keepNo, List.filter_map]
  congr 2
  congr 1
  funext y
  show (!(ent y).1.sameKey (.int .i64 no)) = _
  rw [ent_same]
theorem has_keep {l : List TK} {no : Int} : Maps.has (mapD l) (.int .i64 no) = false ↔ (keepNo l no).length = l.length := by
  rw [mapD_has, keepNo_all, List.any_eq_false]
  simp
theorem keys_mapD (l : List TK) : intKeys (mapD l) = l.map (·.n) := by
  simp only [intKeys, mapD, List.map_map]
  rfl
/-- Sorted numbers are the numbers as they stand. -/
theorem sorted_keys {l : List TK} {ss : List Int} (hp : l.Pairwise (fun a b => a.n < b.n)) (h : ss.Perm (intKeys (mapD l))) : ss.mergeSort (fun x y => decide (x ≤ y)) = l.map (·.n) := by
  rw [keys_mapD] at h
  have h1 := (List.mergeSort_perm ss (fun x y => decide (x ≤ y))).trans h
  have h2 := List.pairwise_mergeSort (le := fun x y : Int => decide (x ≤ y)) (fun a b c h1 h2 => by simp at *; omega) (fun a b => by simp; omega) ss
  have h3 : (l.map (·.n)).Pairwise (fun x y => decide (x ≤ y) = true) := by
    rw [List.pairwise_map]
    exact hp.imp fun h => by simp; omega
  exact h1.eq_of_pairwise (fun a b _ _ h1 h2 => by simp at *; omega) h2 h3
end Go.Proofs.YtjgcanhaelabaaaDoor
