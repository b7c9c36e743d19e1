/-
  A booking among a law's arguments: what it is.
-/
import Derived.Test.YtihlilihipcfaaaDoorOpenHold
import Derived.Test.YtihlilihipcfaaaDoorPnrs
namespace Go.Proofs.YtihlilihipcfaaaDoor
open Go.ChangeShapes Go.WideShapes Go.ChangeAt Go.RowKit Go.ChangeMaps
set_option maxRecDepth 10000
set_option linter.unusedSimpArgs false
set_option linter.unusedVariables false

section
variable {H : Type} {enc : TypeId × Value → H} {w : World} {base : Nat} {spare : Nat → Bool} {held : Bool}

theorem cells_bool : Tryd.prog.cellsOf 4 = 1 := by kernel_rfl
theorem cells_strs : Tryd.prog.cellsOf 33 = 1 := by kernel_rfl
theorem cells_holds : Tryd.prog.cellsOf 34 = 1 := by kernel_rfl
theorem cells_pnr : Tryd.prog.cellsOf 36 = 7 := by kernel_rfl

theorem open_strs {n0 : Nat} {cs : List Value} {y : DataW H × List MemPlace} (h : DataW.trod enc Tryd.prog w base spare held n0 33 cs = some y) :
    ∃ (l : List ByteArray) (A : Option Addr) (cap : Nat), cs = [.slice A l.length cap] ∧ l.length ≤ maxLen ∧ (∀ x ∈ l, x.size ≤ maxLen) ∧ Lies w w.heap.size 1 A l.length (strsC l) := by
  rcases Deep.open_slice Tryd.underlying33 h with ⟨hcs, hx⟩ | ⟨a, len, cap, m, n, D, Pl, hcs, hb, hlc, hcm, hm, hx, hel⟩
  · exact ⟨[], none, 0, hcs, Nat.zero_le _, by simp, Lies.none_⟩
  · subst hcs
    rw [cells_str] at hel
    have hlm : len ≤ m := by rw [hm]; split <;> omega
    obtain ⟨Y, hY⟩ : ∃ Y : Nat → ByteArray, ∀ i, i < len → (Y i).size ≤ maxLen ∧ w.cell? (a.add i) = some (.string (Y i)) := by
      have hall : ∀ i, ∃ y : ByteArray, i < len → y.size ≤ maxLen ∧ w.cell? (a.add i) = some (.string y) := fun i => by
        by_cases hi : i < len
        · obtain ⟨cs', hc, ht⟩ := hel i (by omega)
          obtain ⟨s, rfl, _, hs⟩ := DataW.trod_string Tryd.underlying9 ht
          rw [Nat.mul_one] at hc
          exact ⟨s, fun _ => ⟨hs, cell_of_cells?_one hc⟩⟩
        · exact ⟨⟨#[]⟩, fun h => absurd h hi⟩
      exact ⟨fun i => Classical.choose (hall i), fun i => Classical.choose_spec (hall i)⟩
    refine ⟨(List.range len).map Y, some a, cap, by simp, by simp; omega, ?_, ?_⟩
    · intro x hx
      obtain ⟨i, hi, rfl⟩ := List.mem_map.1 hx
      exact (hY i (by simpa using hi)).1
    · rw [List.length_map, List.length_range]
      refine ⟨by rw [strsC_length]; simp, fun hlen => ?_⟩
      have hc0 := (hY 0 hlen).2
      obtain ⟨b, off, spot⟩ := a
      have hspot : spot = none := by simpa [Addr.add] using World.cell?_spot hc0
      subst hspot
      refine ⟨b, off, rfl, World.block_lt_of_cell? w _ hc0, fun j u hu => ?_⟩
      have hj : j < len := by
        have := (List.getElem?_eq_some_iff.1 hu).1
        rwa [strsC_length, List.length_map, List.length_range] at this
      rw [← Go.WideShapes.add_plain]
      have hu' : u = .string (Y j) := by
        rw [strsC, List.getElem?_map, List.getElem?_map, List.getElem?_range hj] at hu
        exact (Option.some.inj hu).symm
      rw [hu']
      exact (hY j hj).2

theorem open_pnr {r : Reach} {b0 : Nat} {v : Value} {d : DataW H} {p : List MemPlace} (hv : Value.okWide Tryd.prog w r b0 36 v) (h : DataW.Trod enc Tryd.prog w base spare held 36 v d p) :
    ∃ (y : PD) (A1 : Option Addr) (c1 : Nat) (A2 : Option Addr) (c2 : Nat), v = pdV y A1 c1 A2 c2 ∧ PLies w w.heap.size y A1 A2 ∧ PFit y := by
  obtain ⟨cs, rfl, hsz⟩ := okWide_struct Tryd.underlying36 hv
  obtain ⟨cs⟩ := cs
  obtain ⟨fuel, hf⟩ := h
  obtain ⟨xs, n, _, hx, hl, hlen, hg⟩ := DataW.trod_struct Tryd.underlying36 hf
  rw [cells_pnr] at hl
  match cs, hl, xs, hlen with
  | [v0, v1, v2, v3, v4, v5, v6], _, [y0, y1, y2, y3, y4, y5, y6], _ =>
    have g0 : DataW.trod enc Tryd.prog w base spare held n 2 (([v0, v1, v2, v3, v4, v5, v6].drop 0).take (Tryd.prog.cellsOf 2)) = some y0 := hg 0 _ rfl
    have g1 : DataW.trod enc Tryd.prog w base spare held n 2 (([v0, v1, v2, v3, v4, v5, v6].drop 1).take (Tryd.prog.cellsOf 2)) = some y1 := hg 1 _ rfl
    have g2 : DataW.trod enc Tryd.prog w base spare held n 2 (([v0, v1, v2, v3, v4, v5, v6].drop 2).take (Tryd.prog.cellsOf 2)) = some y2 := hg 2 _ rfl
    have g3 : DataW.trod enc Tryd.prog w base spare held n 33 (([v0, v1, v2, v3, v4, v5, v6].drop 3).take (Tryd.prog.cellsOf 33)) = some y3 := hg 3 _ rfl
    have g4 : DataW.trod enc Tryd.prog w base spare held n 34 (([v0, v1, v2, v3, v4, v5, v6].drop 4).take (Tryd.prog.cellsOf 34)) = some y4 := hg 4 _ rfl
    have g5 : DataW.trod enc Tryd.prog w base spare held n 4 (([v0, v1, v2, v3, v4, v5, v6].drop 5).take (Tryd.prog.cellsOf 4)) = some y5 := hg 5 _ rfl
    have g6 : DataW.trod enc Tryd.prog w base spare held n 2 (([v0, v1, v2, v3, v4, v5, v6].drop 6).take (Tryd.prog.cellsOf 2)) = some y6 := hg 6 _ rfl
    rw [cells_int] at g0 g1 g2 g6
    rw [cells_strs] at g3
    rw [cells_holds] at g4
    rw [cells_bool] at g5
    obtain ⟨z0, e0, _, _⟩ := DataW.trod_int Tryd.underlying2 g0
    obtain ⟨z1, e1, _, _⟩ := DataW.trod_int Tryd.underlying2 g1
    obtain ⟨z2, e2, _, _⟩ := DataW.trod_int Tryd.underlying2 g2
    obtain ⟨z6, e6, _, _⟩ := DataW.trod_int Tryd.underlying2 g6
    obtain ⟨z5, e5, _⟩ := DataW.trod_bool Tryd.underlying4 g5
    obtain ⟨ns, A1, c1, e3, m1, f1, l1⟩ := open_strs g3
    obtain ⟨hs, A2, c2, e4, m2, f2, l2⟩ := open_holds g4
    simp at e0 e1 e2 e3 e5 e6
    subst e0 e1 e2 e3 e4 e5 e6
    exact ⟨⟨z0, z1, z2, ns, hs, z5, z6⟩, A1, c1, A2, c2, rfl, ⟨l1, l2⟩, m1, f1, m2, f2⟩
end
end Go.Proofs.YtihlilihipcfaaaDoor
