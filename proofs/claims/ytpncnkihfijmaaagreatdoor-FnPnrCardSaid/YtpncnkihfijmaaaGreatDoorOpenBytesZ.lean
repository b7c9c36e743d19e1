/-
  Bytes among a law's arguments: what they are.
-/
import Derived.Test.YtpncnkihfijmaaaGreatDoorM1
import Derived.Lib.SmallJoins
import Derived.Deep.Slices
namespace Go.Proofs.YtpncnkihfijmaaaGreatDoor
open Go.ChangeShapes Go.WideShapes Go.ChangeAt Go.RowKit Go.ChangeMaps
set_option maxRecDepth 10000
set_option linter.unusedSimpArgs false
set_option linter.unusedVariables false

section
variable {H : Type} {enc : TypeId × Value → H} {w : World} {base : Nat} {spare : Nat → Bool} {held : Bool}

theorem cells_u8 : Tryz.prog.cellsOf 5 = 1 := by kernel_rfl

theorem trod_u8 {fuel : Nat} {cs : List Value} {x : DataW H × List MemPlace} (h : DataW.trod enc Tryz.prog w base spare held fuel 5 cs = some x) : ∃ y : UInt8, cs = [byteV y] := by
  obtain ⟨a, e0, q0, hw⟩ := DataW.trod_int Tryz.underlying5 h
  have hw : (Lit.int .u8 a).wf = true := by simpa using hw
  have h0 : 0 ≤ a ∧ a < 256 := by
    simp [Lit.wf, IntKind.min, IntKind.max, IntKind.signed, IntKind.bits] at hw
    omega
  refine ⟨UInt8.ofNat a.toNat, ?_⟩
  rw [e0, byteV]
  have : ((UInt8.ofNat a.toNat).toNat : Int) = a := by
    simp [UInt8.toNat_ofNat']
    omega
  rw [this]

theorem bytesV_at {l : List UInt8} {i : Nat} {y : UInt8} (h : l[i]? = some y) : (bytesV l)[i]? = some (byteV y) := by rw [bytesV, List.getElem?_map, h]; rfl

/-- A slice's reading, down to its places and elements. -/
theorem open_bytes {n0 : Nat} {v : Value} {y : DataW H × List MemPlace} (h : DataW.trod enc Tryz.prog w base spare held n0 31 [v] = some y) :
    ∃ (l : List UInt8) (A : Option Addr) (cap : Nat), v = .slice A l.length cap ∧ l.length ≤ maxLen ∧ Lies w w.heap.size 1 A l.length (bytesV l) := by
  rcases Deep.open_slice Tryz.underlying31 h with ⟨hcs, hx⟩ | ⟨a, len, cap, m, n, D, Pl, hcs, hb, hlc, hcm, hm, hx, hel⟩
  · simp only [List.cons.injEq, and_true] at hcs
    exact ⟨[], none, 0, hcs, Nat.zero_le _, Lies.none_⟩
  · simp only [List.cons.injEq, and_true] at hcs
    subst hcs
    rw [cells_u8] at hel
    have hlm : len ≤ m := by rw [hm]; split <;> omega
    obtain ⟨Y, hY⟩ : ∃ Y : Nat → UInt8, ∀ i, i < len → w.cell? (a.add i) = some (byteV (Y i)) := by
      have hall : ∀ i, ∃ y : UInt8, i < len → w.cell? (a.add i) = some (byteV y) := fun i => by
        by_cases hi : i < len
        · obtain ⟨cs', hc, ht⟩ := hel i (by omega)
          obtain ⟨y, rfl⟩ := trod_u8 ht
          obtain ⟨_, hl3, hat⟩ := World.cells?_some hc
          refine ⟨y, fun _ => ?_⟩
          have := hat 0 (by omega)
          rw [Deep.add_add] at this
          simpa using this
        · exact ⟨0, fun h => absurd h hi⟩
      exact ⟨fun i => Classical.choose (hall i), fun i => Classical.choose_spec (hall i)⟩
    refine ⟨(List.range len).map Y, some a, cap, by simp, by simp; omega, ?_⟩
    · rw [List.length_map, List.length_range]
      refine ⟨by rw [bytesV_length]; simp, fun hlen => ?_⟩
      have hc0 := hY 0 hlen
      obtain ⟨b, off, spot⟩ := a
      have hspot : spot = none := by simpa [Addr.add] using World.cell?_spot hc0
      subst hspot
      refine ⟨b, off, rfl, World.block_lt_of_cell? w _ hc0, fun j u hu => ?_⟩
      have hj : j < len := by
        have := (List.getElem?_eq_some_iff.1 hu).1
        rwa [bytesV_length, List.length_map, List.length_range] at this
      have h0 := bytesV_at (l := (List.range len).map Y) (i := j) (y := Y j) (by simp [hj])
      rw [← Go.WideShapes.add_plain]
      rw [hY j hj]
      exact h0.symm.trans hu

theorem open_bytes_arg {r : Reach} {b0 : Nat} {v : Value} {d : DataW H} {p : List MemPlace} (hv : Value.okWide Tryz.prog w r b0 31 v) (h : DataW.Trod enc Tryz.prog w base spare held 31 v d p) :
    ∃ (l : List UInt8) (A : Option Addr) (cap : Nat), v = .slice A l.length cap ∧ l.length ≤ maxLen ∧ Lies w w.heap.size 1 A l.length (bytesV l) := by
  obtain ⟨a0, len, cap, rfl⟩ := okWide_slice Tryz.underlying31 hv
  obtain ⟨fuel, hf⟩ := h
  exact open_bytes hf
end
end Go.Proofs.YtpncnkihfijmaaaGreatDoor
