/-
  A list of tokens among a law's arguments: what it is.
-/
import Derived.Test.YtjgcanhaelabaaaToks
import Derived.Lib.SmallJoins
import Derived.Deep.Slices
namespace Go.Proofs.Ytjgcanhaelabaaa
open Go.ChangeShapes Go.WideShapes Go.ChangeAt Go.RowKit Go.ChangeMaps
set_option linter.unusedSimpArgs false
set_option linter.unusedVariables false

section
variable {H : Type} {enc : TypeId × Value → H} {w : World} {base : Nat} {spare : Nat → Bool} {held : Bool}

theorem cells_tok : Try.prog.cellsOf 46 = 4 := by kernel_rfl
theorem cells_int : Try.prog.cellsOf 2 = 1 := by kernel_rfl

theorem trod_tok {fuel : Nat} {cs : List Value} {x : DataW H × List MemPlace} (h : DataW.trod enc Try.prog w base spare held fuel 46 cs = some x) : ∃ y : TK, cs = tokC y := by
  obtain ⟨xs, n, _, hx, hl, hlen, hg⟩ := DataW.trod_struct Try.underlying46 h
  rw [cells_tok] at hl
  match cs, hl, xs, hlen with
  | [c0, c1, c2, c3], _, [y0, y1, y2, y3], _ =>
    have g0 : DataW.trod enc Try.prog w base spare held n 2 (([c0, c1, c2, c3].drop 0).take (Try.prog.cellsOf 2)) = some y0 := hg 0 _ rfl
    have g1 : DataW.trod enc Try.prog w base spare held n 2 (([c0, c1, c2, c3].drop 1).take (Try.prog.cellsOf 2)) = some y1 := hg 1 _ rfl
    have g2 : DataW.trod enc Try.prog w base spare held n 2 (([c0, c1, c2, c3].drop 2).take (Try.prog.cellsOf 2)) = some y2 := hg 2 _ rfl
    have g3 : DataW.trod enc Try.prog w base spare held n 2 (([c0, c1, c2, c3].drop 3).take (Try.prog.cellsOf 2)) = some y3 := hg 3 _ rfl
    rw [cells_int] at g0 g1 g2 g3
    obtain ⟨a, e0, q0, _⟩ := DataW.trod_int Try.underlying2 g0
    obtain ⟨b, e1, q1, _⟩ := DataW.trod_int Try.underlying2 g1
    obtain ⟨c, e2, q2, _⟩ := DataW.trod_int Try.underlying2 g2
    obtain ⟨d, e3, q3, _⟩ := DataW.trod_int Try.underlying2 g3
    simp at e0 e1 e2 e3
    subst e0 e1 e2 e3
    exact ⟨⟨a, b, c, d⟩, rfl⟩

/-- A slice's reading, down to its places and elements. -/
theorem open_toks {n0 : Nat} {v : Value} {y : DataW H × List MemPlace} (h : DataW.trod enc Try.prog w base spare held n0 22 [v] = some y) :
    ∃ (l : List TK) (A : Option Addr) (cap : Nat), v = .slice A l.length cap ∧ l.length ≤ maxLen ∧ Lies w w.heap.size 4 A l.length (toksC l) := by
  rcases Deep.open_slice Try.underlying22 h with ⟨hcs, hx⟩ | ⟨a, len, cap, m, n, D, Pl, hcs, hb, hlc, hcm, hm, hx, hel⟩
  · simp only [List.cons.injEq, and_true] at hcs
    exact ⟨[], none, 0, hcs, Nat.zero_le _, Lies.none_⟩
  · simp only [List.cons.injEq, and_true] at hcs
    subst hcs
    rw [cells_tok] at hel
    have hlm : len ≤ m := by rw [hm]; split <;> omega
    obtain ⟨Y, hY⟩ : ∃ Y : Nat → TK, ∀ i, i < len → ∀ j u, (tokC (Y i))[j]? = some u → w.cell? (a.add (i * 4 + j)) = some u := by
      have hall : ∀ i, ∃ y : TK, i < len → ∀ j u, (tokC y)[j]? = some u → w.cell? (a.add (i * 4 + j)) = some u := fun i => by
        by_cases hi : i < len
        · obtain ⟨cs', hc, ht⟩ := hel i (by omega)
          obtain ⟨y, rfl⟩ := trod_tok ht
          obtain ⟨_, hl3, hat⟩ := World.cells?_some hc
          refine ⟨y, fun _ j u hu => ?_⟩
          have hj : j < 4 := by
            have := (List.getElem?_eq_some_iff.1 hu).1
            simpa [tokC] using this
          rw [← Deep.add_add]
          exact (hat j hj).trans hu
        · exact ⟨⟨0, 0, 0, 0⟩, fun h => absurd h hi⟩
      exact ⟨fun i => Classical.choose (hall i), fun i => Classical.choose_spec (hall i)⟩
    refine ⟨(List.range len).map Y, some a, cap, by simp, by simp; omega, ?_⟩
    · rw [List.length_map, List.length_range]
      refine ⟨by rw [toksC_length]; simp, fun hlen => ?_⟩
      have hc0 := hY 0 hlen 0 _ rfl
      obtain ⟨b, off, spot⟩ := a
      have hspot : spot = none := by simpa [Addr.add] using World.cell?_spot hc0
      subst hspot
      refine ⟨b, off, rfl, World.block_lt_of_cell? w _ hc0, fun j u hu => ?_⟩
      have hj : j < len * 4 := by
        have := (List.getElem?_eq_some_iff.1 hu).1
        rwa [toksC_length, List.length_map, List.length_range] at this
      have hi : j / 4 < len := by omega
      have e : j = j / 4 * 4 + j % 4 := by omega
      obtain ⟨h0, h1, h2, h3⟩ := toksC_at ((List.range len).map Y) (j / 4) (x := Y (j / 4)) (by simp [hi])
      have hr : j % 4 = 0 ∨ j % 4 = 1 ∨ j % 4 = 2 ∨ j % 4 = 3 := by omega
      rw [← Go.WideShapes.add_plain, e]
      rw [e] at hu
      refine hY (j / 4) hi (j % 4) u ?_
      rcases hr with hr | hr | hr | hr <;> rw [hr] at hu ⊢
      · exact h0.symm.trans hu
      · exact h1.symm.trans hu
      · exact h2.symm.trans hu
      · exact h3.symm.trans hu

theorem open_toks_arg {r : Reach} {b0 : Nat} {v : Value} {d : DataW H} {p : List MemPlace} (hv : Value.okWide Try.prog w r b0 22 v) (h : DataW.Trod enc Try.prog w base spare held 22 v d p) :
    ∃ (l : List TK) (A : Option Addr) (cap : Nat), v = .slice A l.length cap ∧ l.length ≤ maxLen ∧ Lies w w.heap.size 4 A l.length (toksC l) := by
  obtain ⟨a0, len, cap, rfl⟩ := okWide_slice Try.underlying22 hv
  obtain ⟨fuel, hf⟩ := h
  exact open_toks hf
end
end Go.Proofs.Ytjgcanhaelabaaa
