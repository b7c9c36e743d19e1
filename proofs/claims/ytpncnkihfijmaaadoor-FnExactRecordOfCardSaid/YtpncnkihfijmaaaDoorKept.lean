/-
  Cells and marks of old blocks, carried over calls that left all that stood.
-/
import Derived.Test.YtpncnkihfijmaaaDoorBase
import Derived.Handy
namespace Go.Proofs.YtpncnkihfijmaaaDoor
open Go.ChangeShapes Go.WideShapes Go.ChangeAt Go.RowKit Go.ChangeMaps
set_option maxRecDepth 10000

/-- A cell of an old block reads on behind a call that left all that stood. -/
theorem kc {n : Nat} {W w1 : World} (hb : Below n W w1) {b i : Nat} {v : Value} (h : W.cell? ⟨b, i, none⟩ = some v) (hlt : b < n) : w1.cell? ⟨b, i, none⟩ = some v :=
  (hb.cell (p := ⟨b, i, none⟩) hlt).trans h

theorem kf {n : Nat} {W w1 : World} (hb : Below n W w1) {b i : Nat} (h : W.frozen? ⟨b, i, none⟩ = false) (hlt : b < n) : w1.frozen? ⟨b, i, none⟩ = false :=
  (hb.frozen (p := ⟨b, i, none⟩) hlt).trans h

theorem bstep {n : Nat} {w W W' : World} (hb : Below W.heap.size W W') (h : Below n w W) (hz : n ≤ W.heap.size) : Below n w W' := h.trans (hb.mono hz)
theorem zstep {n : Nat} {W W' : World} (hb : Below W.heap.size W W') (h : n ≤ W.heap.size) : n ≤ W'.heap.size := Nat.le_trans h hb.size
/-- .. and behind a new block and a call. -/
theorem kca {W w1 : World} {o : Obj} (hb : Below (W.alloc o).heap.size (W.alloc o) w1) {b i : Nat} {v : Value} (h : W.cell? ⟨b, i, none⟩ = some v) : w1.cell? ⟨b, i, none⟩ = some v := by
  have hlt := World.block_lt_of_cell? W ⟨b, i, none⟩ h
  exact kc hb ((World.cell?_alloc_old W o ⟨b, i, none⟩ (Nat.ne_of_lt hlt)).trans h) (by simp; exact Nat.lt_succ_of_lt hlt)
theorem kfa {W w1 : World} {o : Obj} (hb : Below (W.alloc o).heap.size (W.alloc o) w1) {b i : Nat} (h : W.frozen? ⟨b, i, none⟩ = false) (hlt : b < W.heap.size) : w1.frozen? ⟨b, i, none⟩ = false :=
  kf hb ((World.frozen?_alloc_old W o ⟨b, i, none⟩ (Nat.ne_of_lt hlt)).trans h) (by simp; exact Nat.lt_succ_of_lt hlt)
/-- A cell behind a new block; behind a draw. -/
theorem ka {W : World} {o : Obj} {b i : Nat} {v : Value} (h : W.cell? ⟨b, i, none⟩ = some v) : (W.alloc o).cell? ⟨b, i, none⟩ = some v :=
  (World.cell?_alloc_old W o ⟨b, i, none⟩ (Nat.ne_of_lt (World.block_lt_of_cell? W ⟨b, i, none⟩ h))).trans h
theorem kd {W : World} {a : Addr} {v : Value} (h : W.cell? a = some v) : W.drew.cell? a = some v := h
end Go.Proofs.YtpncnkihfijmaaaDoor
