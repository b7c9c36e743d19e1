/-
  Requests: as values; which are right; the laws' own size and copy of one.
-/
import Derived.Test.YtpncnkihfijmaaaDoorSeatSame
import Derived.Test.YtpncnkihfijmaaaDoorWord
namespace Go.Proofs.YtpncnkihfijmaaaDoor
open Go.ChangeShapes Go.WideShapes Go.ChangeAt Go.RowKit Go.ChangeMaps
set_option maxRecDepth 10000
set_option linter.unusedSimpArgs false
set_option linter.unusedVariables false

structure RQ where
  k : Int
  t : Int
  h : Int
  l : Int
  n : ByteArray
  f : ByteArray
  r : Int
  c : Int
  o : Int
deriving DecidableEq

/-- A request, as a value. -/
abbrev reqV (k t h l : Int) (n f : ByteArray) (r c o : Int) : Value := .agg #[.int .i64 k, .int .i64 t, .int .i64 h, .int .i64 l, .string n, .string f, .int .i64 r, .int .i64 c, .int .i64 o]
abbrev rqV (x : RQ) : Value := reqV x.k x.t x.h x.l x.n x.f x.r x.c x.o

def house4 (n : Int) : Bool := inB n 1 4
/-- Has a kind a booking, a name, a flight, a seat, another house? -/
def hasPb (k : Int) : Bool := decide (2 ≤ k ∧ k ≤ 8)
def hasNb (k : Int) : Bool := decide (k = 2)
def hasFb (k : Int) : Bool := decide (k = 3 ∨ k = 4 ∨ k = 9)
def hasSb (k : Int) : Bool := decide (k = 3 ∨ k = 4)
def hasTb (k : Int) : Bool := decide (k = 6)
def placeB (b : Bool) (h l : Int) : Bool := if b then inB h 1 4 && inB l 1 9 else decide (h = 0) && decide (l = 0)
def wordOr (b : Bool) (s : ByteArray) : Bool := if b then wordB s else decide (s = ⟨#[]⟩)
def seatOr (b : Bool) (r c : Int) : Bool := if b then seatB r c else decide (r = 0) && decide (c = 0)
def toOr (b : Bool) (o : Int) : Bool := if b then inB o 1 4 else decide (o = 0)
/-- Is a request right? -/
def reqB (x : RQ) : Bool := inB x.k 1 10 && (inB x.t 1 999 && (placeB (hasPb x.k) x.h x.l && ((wordOr (hasNb x.k) x.n && wordOr (hasFb x.k) x.f) && (seatOr (hasSb x.k) x.r x.c && toOr (hasTb x.k) x.o))))

theorem wordB_empty : wordB ⟨#[]⟩ = false := wordB_size (.inl (by decide))

/-- What is left of n behind a request's letters. -/
def leftR (n : Int) (a b : Nat) : Int := if n < ((a + b : Nat) : Int) then -1 else n - ((a + b : Nat) : Int)
set_option maxHeartbeats 1000000 in
theorem szReq_any (k t h l : Int) (n f : ByteArray) (r c o m : Int) (w : World) (hn : n.size ≤ maxLen) (hf : f.size ≤ maxLen) (h0 : 0 ≤ m) (h1 : m ≤ 1048576) :
    Calls Tryd.prog 5 #[reqV k t h l n f r c o, .int .i64 m] w fun e w' => e = .returned (.int .i64 (leftR m n.size f.size)) ∧ Below w.heap.size w w' := by
  unfold maxLen at hn hf
  have HL : Hid (leftR m n.size f.size = if m < ((n.size + f.size : Nat) : Int) then -1 else m - ((n.size + f.size : Nat) : Int)) := rfl
  generalize leftR m n.size f.size = R at *
  by_cases g1 : m < n.size
  · go_enter Tryd.func5, Tryd.ntmps5
    go_wp2
    go_ret
    exact ⟨ret_int (by rw [HL.out, if_pos (by omega)]), by go_grown⟩
  by_cases g2 : m - n.size < f.size
  · go_enter Tryd.func5, Tryd.ntmps5
    go_wp2
    go_ret
    exact ⟨ret_int (by rw [HL.out, if_pos (by omega)]), by go_grown⟩
  · go_enter Tryd.func5, Tryd.ntmps5
    go_wp2
    go_ret
    exact ⟨ret_int (by rw [HL.out, if_neg (by omega)]; omega), by go_grown⟩

set_option maxHeartbeats 1000000 in
theorem toReq_any (k t h l : Int) (n f : ByteArray) (r c o : Int) (w : World) :
    Calls Tryd.prog 7 #[reqV k t h l n f r c o] w fun e w' => e = .returned (reqV k t h l n f r c o) ∧ Below w.heap.size w w' := by
  have HS : Hid (∀ W : World, Calls Tryd.prog 13 #[seatV r c] W fun e w' => e = .returned (seatV r c) ∧ Below W.heap.size W w') := fun W => toSeat_any r c W
  go_enter Tryd.func7, Tryd.ntmps7
  go_wp2_with fail
  refine (HS.out _).mono ?_
  rintro e w1 ⟨rfl, hb1⟩
  have hB : Below w.heap.size w w1 := Below.trans (by go_grown) (hb1.mono (by simp; omega))
  have hz : w.heap.size + 3 ≤ w1.heap.size := by have := hb1.size; simpa using this
  have b7 := kc hb1 (b := w.heap.size) (i := 8) (v := .int .i64 o) (by go_simp) (by simp; omega)
  have blk1 : w1.heap[w.heap.size + 1]? = some (.cells #[.int .i64 0, .int .i64 0, .int .i64 0, .int .i64 0, .string ⟨#[]⟩, .string ⟨#[]⟩, .int .i64 0, .int .i64 0, .int .i64 0] 30 (0, 0)) := (hb1.block (w.heap.size + 1) (by simp)).trans ((Below.heap_alloc _ _ _ (by simp)).trans (by have := heap_alloc_new (w.alloc (.cells #[.int .i64 k, .int .i64 t, .int .i64 h, .int .i64 l, .string n, .string f, .int .i64 r, .int .i64 c, .int .i64 o] 25)) (.cells #[.int .i64 0, .int .i64 0, .int .i64 0, .int .i64 0, .string ⟨#[]⟩, .string ⟨#[]⟩, .int .i64 0, .int .i64 0, .int .i64 0] 30); simpa using this))
  have blk2 : w1.heap[w.heap.size + 1 + 1]? = some (.cells #[.int .i64 k, .int .i64 t, .int .i64 h, .int .i64 l, .string n, .string f, .int .i64 0, .int .i64 0, .int .i64 0] 30 (0, 0)) := (hb1.block (w.heap.size + 2) (by simp)).trans (by have := heap_alloc_new ((w.alloc (.cells #[.int .i64 k, .int .i64 t, .int .i64 h, .int .i64 l, .string n, .string f, .int .i64 r, .int .i64 c, .int .i64 o] 25)).alloc (.cells #[.int .i64 0, .int .i64 0, .int .i64 0, .int .i64 0, .string ⟨#[]⟩, .string ⟨#[]⟩, .int .i64 0, .int .i64 0, .int .i64 0] 30)) (.cells #[.int .i64 k, .int .i64 t, .int .i64 h, .int .i64 l, .string n, .string f, .int .i64 0, .int .i64 0, .int .i64 0] 30); simpa using this)
  have q1 := fun i => (cell_of_row w1 (w.heap.size + 1) i _ _ _ blk1)
  have q2 := fun i => (cell_of_row w1 (w.heap.size + 1 + 1) i _ _ _ blk2)
  have r1 := fun i => (frozen_of_row w1 (w.heap.size + 1) i _ _ blk1)
  have r2 := fun i => (frozen_of_row w1 (w.heap.size + 1 + 1) i _ _ blk2)
  clear hb1 blk1 blk2
  go_wp2_with fail
  refine bodyPost_ret (v := reqV k t h l n f r c o) (by simp [results, Tryd.results7, go_sem, q1, q2]) rfl ?_
  refine ⟨rfl, ?_⟩
  iterate 12 (refine Below.setCell ?_ (by dsimp only; omega) _)
  exact hB
theorem boxR {w w1 : World} {o : Obj} (hb : Below (w.alloc o).heap.size (w.alloc o) w1) : Below w.heap.size w w1 := ((Below.refl _ _).alloc (Nat.le_refl _) _).trans (hb.mono (by simp))
end Go.Proofs.YtpncnkihfijmaaaDoor
