/-
  A hold, a list of holds, a list of texts among a law's arguments: what they are.
-/
import Derived.Test.YtihlilihipcfaaaDoorHoldLists
import Derived.Lib.SmallJoins
import Derived.Deep.Slices
namespace Go.Proofs.YtihlilihipcfaaaDoor
open Go.ChangeShapes Go.WideShapes Go.ChangeAt Go.RowKit Go.ChangeMaps
set_option maxRecDepth 10000
set_option linter.unusedSimpArgs false
set_option linter.unusedVariables false

section
variable {H : Type} {enc : TypeId × Value → H} {w : World} {base : Nat} {spare : Nat → Bool} {held : Bool}

theorem cells_seat : Tryd.prog.cellsOf 23 = 2 := by kernel_rfl
theorem cells_hold : Tryd.prog.cellsOf 112 = 3 := by kernel_rfl
theorem cells_int : Tryd.prog.cellsOf 2 = 1 := by kernel_rfl
theorem cells_str : Tryd.prog.cellsOf 9 = 1 := by kernel_rfl

theorem trod_seat {fuel : Nat} {cs : List Value} {x : DataW H × List MemPlace} (h : DataW.trod enc Tryd.prog w base spare held fuel 23 cs = some x) : ∃ r c : Int, cs = [.int .i64 r, .int .i64 c] ∧ x.2 = [] := by
  obtain ⟨xs, n, _, hx, hl, hlen, hg⟩ := DataW.trod_struct Tryd.underlying23 h
  rw [cells_seat] at hl
  match cs, hl, xs, hlen with
  | [c0, c1], _, [y0, y1], _ =>
    have g0 : DataW.trod enc Tryd.prog w base spare held n 2 (([c0, c1].drop 0).take (Tryd.prog.cellsOf 2)) = some y0 := hg 0 _ rfl
    have g1 : DataW.trod enc Tryd.prog w base spare held n 2 (([c0, c1].drop 1).take (Tryd.prog.cellsOf 2)) = some y1 := hg 1 _ rfl
    rw [cells_int] at g0 g1
    obtain ⟨r, e0, q0, _⟩ := DataW.trod_int Tryd.underlying2 g0
    obtain ⟨c, e1, q1, _⟩ := DataW.trod_int Tryd.underlying2 g1
    subst q0 q1
    simp at e0 e1
    subst e0 e1
    exact ⟨r, c, rfl, by rw [hx]; rfl⟩

theorem trod_hold {fuel : Nat} {cs : List Value} {x : DataW H × List MemPlace} (h : DataW.trod enc Tryd.prog w base spare held fuel 112 cs = some x) : ∃ y : HD, cs = holdC y ∧ y.f.size ≤ maxLen ∧ x.2 = [] := by
  obtain ⟨xs, n, _, hx, hl, hlen, hg⟩ := DataW.trod_struct Tryd.underlying112 h
  rw [cells_hold] at hl
  match cs, hl, xs, hlen with
  | [c0, c1, c2], _, [y0, y1], _ =>
    have g0 : DataW.trod enc Tryd.prog w base spare held n 9 (([c0, c1, c2].drop 0).take (Tryd.prog.cellsOf 9)) = some y0 := hg 0 _ rfl
    have g1 : DataW.trod enc Tryd.prog w base spare held n 23 (([c0, c1, c2].drop 1).take (Tryd.prog.cellsOf 23)) = some y1 := hg 1 _ rfl
    rw [cells_str] at g0
    rw [cells_seat] at g1
    obtain ⟨f, e0, q0, hf⟩ := DataW.trod_string Tryd.underlying9 g0
    obtain ⟨r, c, e1, q1⟩ := trod_seat g1
    subst q0
    simp at e0 e1
    obtain ⟨rfl, rfl⟩ := e1
    subst e0
    exact ⟨⟨f, r, c⟩, rfl, hf, by rw [hx]; simp [q1]⟩

theorem open_hold {r : Reach} {b0 : Nat} {v : Value} {d : DataW H} {p : List MemPlace} (hv : Value.okWide Tryd.prog w r b0 112 v) (h : DataW.Trod enc Tryd.prog w base spare held 112 v d p) :
    ∃ y : HD, v = holdV y.f y.r y.c ∧ p = [] ∧ y.f.size ≤ maxLen := by
  obtain ⟨cs, rfl, hsz⟩ := okWide_struct Tryd.underlying112 hv
  obtain ⟨fuel, hf⟩ := h
  obtain ⟨y, hc, hy, hp⟩ := trod_hold hf
  obtain ⟨cs⟩ := cs
  have hcs : cs = holdC y := hc
  subst hcs
  exact ⟨y, rfl, hp, hy⟩

/-- A slice's reading, down to its places and elements. -/
theorem open_holds {n0 : Nat} {v : Value} {y : DataW H × List MemPlace} (h : DataW.trod enc Tryd.prog w base spare held n0 34 [v] = some y) :
    ∃ (l : List HD) (A : Option Addr) (cap : Nat), v = .slice A l.length cap ∧ l.length ≤ maxLen ∧ (∀ x ∈ l, x.f.size ≤ maxLen) ∧ Lies w w.heap.size 3 A l.length (holdsC l) := by
  rcases Deep.open_slice Tryd.underlying34 h with ⟨hcs, hx⟩ | ⟨a, len, cap, m, n, D, Pl, hcs, hb, hlc, hcm, hm, hx, hel⟩
  · simp only [List.cons.injEq, and_true] at hcs
    exact ⟨[], none, 0, hcs, Nat.zero_le _, by simp, Lies.none_⟩
  · simp only [List.cons.injEq, and_true] at hcs
    subst hcs
    rw [cells_hold] at hel
    have hlm : len ≤ m := by rw [hm]; split <;> omega
    obtain ⟨Y, hY⟩ : ∃ Y : Nat → HD, ∀ i, i < len → (Y i).f.size ≤ maxLen ∧ ∀ j u, (holdC (Y i))[j]? = some u → w.cell? (a.add (i * 3 + j)) = some u := by
      have hall : ∀ i, ∃ y : HD, i < len → y.f.size ≤ maxLen ∧ ∀ j u, (holdC y)[j]? = some u → w.cell? (a.add (i * 3 + j)) = some u := fun i => by
        by_cases hi : i < len
        · obtain ⟨cs', hc, ht⟩ := hel i (by omega)
          obtain ⟨y, rfl, hy, _⟩ := trod_hold ht
          obtain ⟨_, hl3, hat⟩ := World.cells?_some hc
          refine ⟨y, fun _ => ⟨hy, fun j u hu => ?_⟩⟩
          have hj : j < 3 := by
            have := (List.getElem?_eq_some_iff.1 hu).1
            simpa [holdC] using this
          rw [← Deep.add_add]
          exact (hat j hj).trans hu
        · exact ⟨⟨⟨#[]⟩, 0, 0⟩, fun h => absurd h hi⟩
      exact ⟨fun i => Classical.choose (hall i), fun i => Classical.choose_spec (hall i)⟩
    refine ⟨(List.range len).map Y, some a, cap, by simp, by simp; omega, ?_, ?_⟩
    · intro x hx
      obtain ⟨i, hi, rfl⟩ := List.mem_map.1 hx
      exact (hY i (by simpa using hi)).1
    · rw [List.length_map, List.length_range]
      refine ⟨by rw [holdsC_length]; simp, fun hlen => ?_⟩
      have hc0 := (hY 0 hlen).2 0 _ rfl
      obtain ⟨b, off, spot⟩ := a
      have hspot : spot = none := by simpa [Addr.add] using World.cell?_spot hc0
      subst hspot
      refine ⟨b, off, rfl, World.block_lt_of_cell? w _ hc0, fun j u hu => ?_⟩
      have hj : j < len * 3 := by
        have := (List.getElem?_eq_some_iff.1 hu).1
        rwa [holdsC_length, List.length_map, List.length_range] at this
      have hi : j / 3 < len := by omega
      have e : j = j / 3 * 3 + j % 3 := by omega
      obtain ⟨h0, h1, h2⟩ := holdsC_at ((List.range len).map Y) (j / 3) (x := Y (j / 3)) (by simp [hi])
      have hr : j % 3 = 0 ∨ j % 3 = 1 ∨ j % 3 = 2 := by omega
      rw [← Go.WideShapes.add_plain, e]
      rw [e] at hu
      refine (hY (j / 3) hi).2 (j % 3) u ?_
      rcases hr with hr | hr | hr <;> rw [hr] at hu ⊢
      · exact h0.symm.trans hu
      · exact h1.symm.trans hu
      · exact h2.symm.trans hu

theorem open_holds_arg {r : Reach} {b0 : Nat} {v : Value} {d : DataW H} {p : List MemPlace} (hv : Value.okWide Tryd.prog w r b0 34 v) (h : DataW.Trod enc Tryd.prog w base spare held 34 v d p) :
    ∃ (l : List HD) (A : Option Addr) (cap : Nat), v = .slice A l.length cap ∧ l.length ≤ maxLen ∧ (∀ x ∈ l, x.f.size ≤ maxLen) ∧ Lies w w.heap.size 3 A l.length (holdsC l) := by
  obtain ⟨a0, len, cap, rfl⟩ := okWide_slice Tryd.underlying34 hv
  obtain ⟨fuel, hf⟩ := h
  exact open_holds hf
end
end Go.Proofs.YtihlilihipcfaaaDoor
