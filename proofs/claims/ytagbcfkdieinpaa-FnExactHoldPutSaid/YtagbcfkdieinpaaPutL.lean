/-
  A hold put in its place among others, as lists. Over any program.
-/
import Derived.Test.YtagbcfkdieinpaaHoldLists
import Derived.Test.YtagbcfkdieinpaaEquals
namespace Go.Proofs.Ytagbcfkdieinpaa
open Go.ChangeShapes Go.WideShapes Go.ChangeAt Go.RowKit Go.ChangeMaps
set_option linter.unusedSimpArgs false
set_option linter.unusedVariables false

/-- Ahead of which one x belongs. -/
def placeL (l : List HD) (x : HD) : Nat := (l.takeWhile (fun y => lessB y x)).length
/-- x put in. -/
def putL (l : List HD) (x : HD) : List HD := if 400 < l.length then [] else if x ∈ l then l else l.take (placeL l x) ++ ([x] ++ l.drop (placeL l x))

theorem placeL_le (l : List HD) (x : HD) : placeL l x ≤ l.length := (List.takeWhile_sublist _).length_le
theorem placeL_succ {x y : HD} : ∀ {l : List HD} {k : Nat}, k ≤ placeL l x → l[k]? = some y → lessB y x = true → k + 1 ≤ placeL l x
  | [], k, _, h, _ => by simp at h
  | z :: l, 0, _, h, hy => by
    simp only [List.getElem?_cons_zero, Option.some.injEq] at h
    subst h
    simp [placeL, List.takeWhile_cons, hy]
  | z :: l, k + 1, hk, h, hy => by
    unfold placeL at hk ⊢
    rw [List.takeWhile_cons] at hk ⊢
    cases hz : lessB z x
    · rw [hz] at hk; simp at hk
    · rw [hz] at hk
      simp only [if_true, List.length_cons] at hk ⊢
      have := placeL_succ (l := l) (k := k) (x := x) (by unfold placeL; omega) (by simpa using h) hy
      unfold placeL at this
      omega
theorem placeL_stop {x y : HD} : ∀ {l : List HD} {k : Nat}, k ≤ placeL l x → l[k]? = some y → lessB y x = false → placeL l x = k
  | [], k, _, h, _ => by simp at h
  | z :: l, 0, _, h, hy => by
    simp only [List.getElem?_cons_zero, Option.some.injEq] at h
    subst h
    simp [placeL, List.takeWhile_cons, hy]
  | z :: l, k + 1, hk, h, hy => by
    unfold placeL at hk ⊢
    rw [List.takeWhile_cons] at hk ⊢
    cases hz : lessB z x
    · rw [hz] at hk; simp at hk
    · rw [hz] at hk
      simp only [if_true, List.length_cons] at hk ⊢
      have := placeL_stop (l := l) (k := k) (x := x) (by unfold placeL; omega) (by simpa using h) hy
      unfold placeL at this
      omega
theorem notin_succ {l : List HD} {k : Nat} {x y : HD} (h : x ∉ l.take k) (hy : l[k]? = some y) (hn : y ≠ x) : x ∉ l.take (k + 1) := by
  rw [List.take_add_one, hy]
  simp only [Option.toList_some, List.mem_append, List.mem_singleton, not_or]
  exact ⟨h, fun e => hn e.symm⟩
theorem mem_at {l : List HD} {k : Nat} {x : HD} (hy : l[k]? = some x) : x ∈ l := List.mem_of_getElem? hy

theorem putL_big {l : List HD} {x : HD} (h : 400 < l.length) : putL l x = [] := if_pos h
theorem putL_there {l : List HD} {x : HD} (h : ¬ 400 < l.length) (hx : x ∈ l) : putL l x = l := by rw [putL, if_neg h, if_pos hx]
theorem putL_new {l : List HD} {x : HD} (h : ¬ 400 < l.length) (hx : x ∉ l) : putL l x = l.take (placeL l x) ++ ([x] ++ l.drop (placeL l x)) := by rw [putL, if_neg h, if_neg hx]
theorem putL_len {l : List HD} {x : HD} (h : ¬ 400 < l.length) (hx : x ∉ l) : (putL l x).length = l.length + 1 := by
  rw [putL_new h hx]
  have := placeL_le l x
  simp
  omega
theorem putL_le (l : List HD) (x : HD) : (putL l x).length ≤ 401 := by
  by_cases h : 400 < l.length
  · rw [putL_big h]; simp
  · by_cases hx : x ∈ l
    · rw [putL_there h hx]; omega
    · rw [putL_len h hx]; omega
theorem putL_size {l : List HD} {x : HD} (h : ∀ y ∈ l, y.f.size ≤ maxLen) (hx : x.f.size ≤ maxLen) : ∀ y ∈ putL l x, y.f.size ≤ maxLen := by
  intro y hy
  unfold putL at hy
  split at hy
  · cases hy
  · split at hy
    · exact h y hy
    · simp only [List.mem_append, List.mem_singleton] at hy
      rcases hy with hy | rfl | hy
      · exact h y (List.mem_of_mem_take hy)
      · exact hx
      · exact h y (List.mem_of_mem_drop hy)

/-- A slice's beginning, and its rest. -/
theorem Lies.take {w : World} {B n k : Nat} {A : Option Addr} {l : List HD} (h : Lies w B 3 A n (holdsC l)) (hk : k ≤ n) : Lies w B 3 A k (holdsC (l.take k)) := by
  obtain ⟨h1, h2⟩ := h
  rw [holdsC_length] at h1
  have hn : l.length = n := by omega
  refine ⟨by rw [holdsC_length, List.length_take]; simp only [Nat.min_def]; split <;> omega, fun h0 => ?_⟩
  obtain ⟨b, off, e, hb, hc⟩ := h2 (by omega)
  refine ⟨b, off, e, hb, fun j u hu => hc j u ?_⟩
  have e1 : holdsC l = holdsC (l.take k) ++ holdsC (l.drop k) := by rw [← holdsC_append, List.take_append_drop]
  rw [e1, List.getElem?_append_left (by rw [List.getElem?_eq_some_iff] at hu; exact hu.1)]
  exact hu
theorem Lies.rest {w : World} {B n k b off : Nat} {l : List HD} (h : Lies w B 3 (some ⟨b, off, none⟩) n (holdsC l)) (hk : k < n) : Lies w B 3 (some ⟨b, off + k * 3, none⟩) (n - k) (holdsC (l.drop k)) := by
  obtain ⟨h1, h2⟩ := h
  rw [holdsC_length] at h1
  have hn : l.length = n := by omega
  refine ⟨by rw [holdsC_length, List.length_drop]; omega, fun h0 => ?_⟩
  obtain ⟨b', off', e, hb, hc⟩ := h2 (by omega)
  cases e
  refine ⟨b, off + k * 3, rfl, hb, fun j u hu => ?_⟩
  have e1 : holdsC l = holdsC (l.take k) ++ holdsC (l.drop k) := by rw [← holdsC_append, List.take_append_drop]
  have e2 : (holdsC (l.take k)).length = k * 3 := by rw [holdsC_length, take_len_le (by omega)]
  rw [Nat.add_assoc]
  refine hc (k * 3 + j) u ?_
  rw [e1, List.getElem?_append_right (by omega), e2, Nat.add_sub_cancel_left]
  exact hu
end Go.Proofs.Ytagbcfkdieinpaa
