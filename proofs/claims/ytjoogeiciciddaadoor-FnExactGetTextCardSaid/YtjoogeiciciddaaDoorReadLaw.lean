/-
  impl.readNum: the walk of a goto machine of three labels.
-/
import Derived.Test.YtjoogeiciciddaaDoorBase
import Derived.Test.YtjoogeiciciddaaDoorTooLong
import Derived.Test.YtjoogeiciciddaaDoorGetLaw
import Derived.Test.YtjoogeiciciddaaDoorJumps
import Derived.Handy
namespace Go.Proofs.YtjoogeiciciddaaDoor
open Go.ChangeShapes Go.WideShapes Go.ChangeAt Go.RowKit Go.ChangeMaps
set_option linter.unusedSimpArgs false
set_option linter.unusedVariables false

/-- An error of impl as a value: nil, or its code. -/
def errV (c : Int) : Value := if c = 0 then .nilIface else .iface 42 (.agg #[.int .i64 c])

theorem andNot128 (c : Nat) (hc : c < 256) : bits BinOp.andNot IntKind.u8 ↑c 128 = ((c % 128 : Nat) : Int) := by
  have h := u8_andNot_nat c 128 hc (by decide)
  rw [show (255 - 128 : Nat) = 127 from rfl, nat_mask7] at h
  exact h
theorem pow_seven (i : Nat) (hi : i ≤ 9) : 2 ^ (7 * i) ≤ 9223372036854775808 := Nat.le_trans (Nat.pow_le_pow_right (by decide) (show 7 * i ≤ 63 by omega)) (by decide)
theorem part_lt (c i : Nat) (hi : i ≤ 9) (h9 : i = 9 → c ≤ 1) : c % 128 * 2 ^ (7 * i) ≤ 9223372036854775808 := by
  by_cases h : i = 9
  · subst h
    have := h9 rfl
    have h1 : c % 128 ≤ 1 := by omega
    exact Nat.le_trans (Nat.mul_le_mul_right _ h1) (by decide)
  · have h2 : 2 ^ (7 * i) ≤ 2 ^ 56 := Nat.pow_le_pow_right (by decide) (by omega)
    have h3 : c % 128 ≤ 128 := by omega
    exact Nat.le_trans (Nat.mul_le_mul h3 h2) (by decide)
theorem orI (x c i : Nat) (hi : i ≤ 9) (hx : x < 2 ^ (7 * i)) (hc : c < 256) (h9 : i = 9 → c ≤ 1) :
    bits BinOp.or IntKind.u64 ↑x (IntKind.u64.wrap (IntKind.u64.wrap (bits BinOp.andNot IntKind.u8 ↑c 128) * 2 ^ (7 * i))) = ((x + c % 128 * 2 ^ (7 * i) : Nat) : Int) := by
  have hp := part_lt c i hi h9
  have h7 := pow_seven i hi
  rw [andNot128 c hc]
  have e1 : IntKind.u64.wrap ((c % 128 : Nat) : Int) = ((c % 128 : Nat) : Int) := IntWalk.u64_in _ (by omega)
  have e2 : (((c % 128 : Nat) : Int) * 2 ^ (7 * i)) = ((c % 128 * 2 ^ (7 * i) : Nat) : Int) := by simp
  rw [e1, e2]
  generalize hY : c % 128 * 2 ^ (7 * i) = Y at *
  have e3 : IntKind.u64.wrap (Y : Int) = (Y : Int) := IntWalk.u64_in _ (by omega)
  rw [e3, u64_or_nat _ _ (by omega) (by omega), Nat.or_comm, nat_join (7 * i) Y x (by rw [← hY]; exact Nat.mul_mod_left _ _) hx, Nat.add_comm]
theorem grow (x c i : Nat) (hx : x < 2 ^ (7 * i)) : x + c % 128 * 2 ^ (7 * i) < 2 ^ (7 * (i + 1)) := by
  have h1 : c % 128 < 128 := Nat.mod_lt _ (by decide)
  have h2 : c % 128 * 2 ^ (7 * i) ≤ 127 * 2 ^ (7 * i) := Nat.mul_le_mul_right _ (by omega)
  have e : 2 ^ (7 * (i + 1)) = 128 * 2 ^ (7 * i) := by rw [Nat.mul_add, Nat.pow_add]; omega
  rw [e]
  omega
theorem grow64 (x c i : Nat) (hi : i ≤ 9) (hx : x < 2 ^ (7 * i)) (h9 : i = 9 → c ≤ 1) : x + c % 128 * 2 ^ (7 * i) < 18446744073709551616 := by
  have hp := part_lt c i hi h9
  have h7 := pow_seven i hi
  omega

/-- The frame at a label. -/
def rnFrame (s : ByteArray) (x1 x7 x8 x9 x10 : Value) (u : Nat → Value) : Act :=
  { tmps := #[.string s, x1, u 2, u 3, .int .i64 0, .int .i64 0, .nilIface, x7, x8, x9, x10, u 11, u 12, u 13, u 14, u 15, u 16, u 17, u 18, u 19, u 20, u 21, u 22, u 23, u 24, u 25, u 26, u 27, u 28, u 29, u 30, u 31, u 32, u 33, u 34, u 35, u 36, u 37, u 38, u 39, u 40, u 41, u 42, u 43, u 44, u 45, u 46, u 47, u 48, u 49, u 50, u 51, u 52, u 53, u 54, u 55, u 56], defers := [] }
def rnIs (s : ByteArray) (x1 x7 x8 x9 x10 : Value) (a : Act) : Prop :=
  a.defers = [] ∧ a.tmps.size = 57 ∧ a.tmps.getD 0 undef = .string s ∧ a.tmps.getD 1 undef = x1 ∧ a.tmps.getD 4 undef = .int .i64 0 ∧ a.tmps.getD 5 undef = .int .i64 0 ∧ a.tmps.getD 6 undef = .nilIface ∧
    a.tmps.getD 7 undef = x7 ∧ a.tmps.getD 8 undef = x8 ∧ a.tmps.getD 9 undef = x9 ∧ a.tmps.getD 10 undef = x10
theorem list_all (l : List Value) : l = (List.range l.length).map fun n => l.getD n undef := by
  apply List.ext_getElem
  · simp
  · intro n h1 h2
    simp [List.getD, List.getElem?_eq_getElem h1]
theorem rnIs_frame {s : ByteArray} {x1 x7 x8 x9 x10 : Value} {a : Act} (h : rnIs s x1 x7 x8 x9 x10 a) : ∃ u, a = rnFrame s x1 x7 x8 x9 x10 u := by
  obtain ⟨hd, hz, h0, h1, h4, h5, h6, h7, h8, h9, h10⟩ := h
  refine ⟨fun n => a.tmps.getD n undef, ?_⟩
  obtain ⟨⟨l⟩, d⟩ := a
  simp only at hd hz h0 h1 h4 h5 h6 h7 h8 h9 h10
  subst hd
  have hl := list_all l
  have hz' : l.length = 57 := by simpa using hz
  rw [hz'] at hl
  have e : ∀ n, (Array.mk l).getD n undef = l.getD n undef := fun n => by simp [Array.getD_eq_getD_getElem?, List.getD]
  simp only [rnFrame]
  rw [← h0, ← h1, ← h4, ← h6, ← h7, ← h8, ← h9, ← h10]
  simp only [e] at h4 h5 ⊢
  rw [h4, ← h5]
  have hx : (Act.mk ⟨l⟩ []) = (Act.mk ⟨(List.range 57).map fun n => l.getD n undef⟩ []) := by rw [← hl]
  refine hx.trans ?_
  have h45 : l.getD 4 undef = l.getD 5 undef := h4.trans h5.symm
  show (Act.mk #[l.getD 0 undef, l.getD 1 undef, l.getD 2 undef, l.getD 3 undef, l.getD 4 undef, l.getD 5 undef, l.getD 6 undef, l.getD 7 undef, l.getD 8 undef, l.getD 9 undef, l.getD 10 undef, l.getD 11 undef, l.getD 12 undef, l.getD 13 undef, l.getD 14 undef, l.getD 15 undef, l.getD 16 undef, l.getD 17 undef, l.getD 18 undef, l.getD 19 undef, l.getD 20 undef, l.getD 21 undef, l.getD 22 undef, l.getD 23 undef, l.getD 24 undef, l.getD 25 undef, l.getD 26 undef, l.getD 27 undef, l.getD 28 undef, l.getD 29 undef, l.getD 30 undef, l.getD 31 undef, l.getD 32 undef, l.getD 33 undef, l.getD 34 undef, l.getD 35 undef, l.getD 36 undef, l.getD 37 undef, l.getD 38 undef, l.getD 39 undef, l.getD 40 undef, l.getD 41 undef, l.getD 42 undef, l.getD 43 undef, l.getD 44 undef, l.getD 45 undef, l.getD 46 undef, l.getD 47 undef, l.getD 48 undef, l.getD 49 undef, l.getD 50 undef, l.getD 51 undef, l.getD 52 undef, l.getD 53 undef, l.getD 54 undef, l.getD 55 undef, l.getD 56 undef] []) = _
  rw [h45]
/-- At 'more': i bytes are read, x is what they are. -/
def More (s : ByteArray) (p : Nat) (R : Int × Int × Int) (a : Act) : Prop :=
  ∃ (i x : Nat) (x8 : Value), rnIs s (.int .i64 ((p + i : Nat) : Int)) (.int .u64 x) x8 (.int .u64 ((7 * i : Nat) : Int)) (.int .i64 3) a ∧ i ≤ 9 ∧ x < 2 ^ (7 * i) ∧ rdN s p (10 - i) i x = R
/-- At 'last': so is the last byte, c. -/
def Last (s : ByteArray) (p : Nat) (R : Int × Int × Int) (a : Act) : Prop :=
  ∃ (i x c : Nat), rnIs s (.int .i64 ((p + i + 1 : Nat) : Int)) (.int .u64 x) (.int .u8 c) (.int .u64 ((7 * i : Nat) : Int)) (.int .i64 3) a ∧ i ≤ 9 ∧ c < 128 ∧ x < 18446744073709551616 ∧
    (if c = 0 ∧ 0 < i then (0, 0, 3) else (unfoldI x, ((p + i + 1 : Nat) : Int), 0)) = R
/-- At 'wrong': the code. -/
def Wrong (s : ByteArray) (R : Int × Int × Int) (a : Act) : Prop :=
  ∃ (x1 x7 x8 x9 : Value) (c : Int), rnIs s x1 x7 x8 x9 (.int .i64 c) a ∧ c ≠ 0 ∧ (0, 0, c) = R
def rnJ (s : ByteArray) (p : Nat) (R : Int × Int × Int) (w : World) (l : Nat) (a : Act) (w' : World) : Prop :=
  w = w' ∧ ((l = 1 ∧ More s p R a) ∨ (l = 2 ∧ Last s p R a) ∨ (l = 0 ∧ Wrong s R a))
def rnM (l : Nat) (a : Act) (_ : World) : Nat := if l = 1 then 102 - (intOf (a.tmps.getD 9 undef)).toNat else if l = 2 then 1 else 0
def rnRet (R : Int × Int × Int) (w : World) (e : Ending) (w' : World) : Prop := e = .returned (.tuple #[.int .i64 R.1, .int .i64 R.2.1, errV R.2.2]) ∧ w = w'
end Go.Proofs.YtjoogeiciciddaaDoor
