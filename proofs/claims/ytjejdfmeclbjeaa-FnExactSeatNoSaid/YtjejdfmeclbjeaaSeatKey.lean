/-
  Seats as keys of a map.
-/
import Derived.Test.YtjejdfmeclbjeaaSeats
import Derived.Maps.Own
import Derived.Maps.OwnOps
import Derived.Maps.Views
import Derived.DeepKeys4
namespace Go.Proofs.Ytjejdfmeclbjeaa
open Go.ChangeShapes Go.WideShapes Go.ChangeAt Go.RowKit Go.ChangeMaps Go.Maps
set_option linter.unusedSimpArgs false
set_option linter.unusedVariables false

theorem seatWide : (match Try.prog.underlying 33 with | some (.array _ _) | some (.struct _) => true | _ => false) = true := by kernel_rfl
theorem seatLaw : Keyed Try.prog 33 := Keyed.of_law (deep_law_laid laidOut (m := 2) (by omega) (of_decide_eq_true (by kernel_rfl)) (by kernel_rfl) seatWide)
theorem seatKeyType : Try.prog.keyType 33 = true := by kernel_rfl
theorem seatCells : Try.prog.cellsOf 33 = 2 := by kernel_rfl
theorem i64Cells : Try.prog.cellsOf 2 = 1 := by kernel_rfl
theorem seatSize : Try.prog.types.size = 68 := by kernel_rfl

/-- What a seat reads as among keys. -/
def seatKl (r c : Int) : Lit := .string (keyBytes [.int .i64 r, .int .i64 c])
theorem keyOf_seat {r c : Int} (hr : (Lit.int .i64 r).wf = true) (hc : (Lit.int .i64 c).wf = true) : keyOf Try.prog 33 (seatV r c) = some (seatKl r c) := by
  have h1 : (seatV r c).formed Try.prog 33 = true := by simp [Value.formed, Try.underlying33, seatCells]
  have h2 : ∀ d, Try.prog.keyLits (d + 2) 33 (seatV r c).cells.toList = some [.int .i64 r, .int .i64 c] := fun d => by
    simp [Program.keyLits, Try.underlying33, Try.underlying2, seatCells, i64Cells, Value.cells, hr, hc]
  obtain ⟨d, hd⟩ : ∃ d, Try.prog.types.size + 1 = d + 2 := ⟨Try.prog.types.size - 1, by rw [seatSize]⟩
  unfold keyOf
  rw [Try.underlying33]
  simp only [seatKeyType, h1, Bool.and_self, if_true]
  rw [hd, h2 d]
  rfl
theorem seatKl_inj {r c r' c' : Int} (hr : (Lit.int .i64 r).wf = true) (hc : (Lit.int .i64 c).wf = true) (hr' : (Lit.int .i64 r').wf = true) (hc' : (Lit.int .i64 c').wf = true) (h : seatKl r c = seatKl r' c') : r = r' ∧ c = c' := by
  have h1 := keyOf_seat hr hc
  rw [h] at h1
  have h2 := seatLaw.inj h1 (keyOf_seat hr' hc')
  simpa [seatV] using h2

theorem wfN (n : Nat) (h : n ≤ 1000000) : (Lit.int .i64 (n : Int)).wf = true := by simp [Lit.wf, IntKind.min, IntKind.max, IntKind.signed, IntKind.bits]; omega

/-- The key of the seat of number i. -/
def nthKl (fc i : Nat) : Lit := seatKl ((i / fc + 1 : Nat) : Int) ((i % fc : Nat) : Int)
theorem keyOf_nth {fc i : Nat} (hi : i ≤ 1000) (hc : i % fc ≤ 1000) : keyOf Try.prog 33 (seatV ((i / fc + 1 : Nat) : Int) ((i % fc : Nat) : Int)) = some (nthKl fc i) :=
  keyOf_seat (wfN _ (by have := Nat.div_le_self i fc; omega)) (wfN _ (by omega))
theorem nthKl_inj {fc i j : Nat} (hi : i ≤ 1000) (hj : j ≤ 1000) (h : nthKl fc i = nthKl fc j) : i = j := by
  have a1 := Nat.div_le_self i fc
  have a2 := Nat.div_le_self j fc
  have b1 := Nat.mod_le i fc
  have b2 := Nat.mod_le j fc
  obtain ⟨h1, h2⟩ := seatKl_inj (wfN _ (by omega)) (wfN _ (by omega)) (wfN _ (by omega)) (wfN _ (by omega)) h
  rw [← Nat.div_add_mod i fc, ← Nat.div_add_mod j fc]
  have e1 : i / fc = j / fc := by omega
  have e2 : i % fc = j % fc := by omega
  rw [e1, e2]

/-- The map D tells the number of each of the first k seats. -/
def NumsTo (D : DataW Unit) (fc k : Nat) : Prop := IsMap D ∧ ∀ j, j < k → D.atKey (nthKl fc j) (.lit (.int .i64 0)) = .lit (.int .i64 (j : Int))
theorem NumsTo.none (fc : Nat) : NumsTo (.map []) fc 0 := ⟨isMap_empty, fun j h => by omega⟩
theorem NumsTo.step {D : DataW Unit} {fc k : Nat} (h : NumsTo D fc k) (hk : k ≤ 1000) : NumsTo (D.put (nthKl fc k) (.lit (.int .i64 (k : Int)))) fc (k + 1) := by
  refine ⟨h.1.put _ _, fun j hj => ?_⟩
  by_cases he : j = k
  · subst he
    exact atKey_put_same h.1 (by unfold nthKl seatKl; trivial) _ _
  · rw [atKey_put_other (fun e => he (nthKl_inj (by omega) hk e))]
    exact h.2 j (by omega)

theorem run_makeMap_hint {P : Program} (t k e : TypeId) (kd : IntKind) (n : Int) (ht : P.underlying t = some (.map k e)) (w : World) :
    (Instr.makeMap t (some (.int kd n))).run P w = .ok (.map (some w.heap.size)) (w.alloc (.map #[] 0)) := by
  simp [Instr.makeMap, run_underlying ht]; rfl
theorem zeroI64 (w : World) : (zeroValue 2).run Try.prog w = .ok (.int .i64 0) w := by kernel_rfl
end Go.Proofs.Ytjejdfmeclbjeaa
