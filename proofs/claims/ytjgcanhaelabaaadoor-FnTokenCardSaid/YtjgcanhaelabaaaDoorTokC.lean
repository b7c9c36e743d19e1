/-
  Tokens: as values, as cells, as lists.
-/
import Derived.Test.YtjgcanhaelabaaaDoorIs
import Derived.Test.YtjgcanhaelabaaaDoorLists
import Derived.Deep.RegionHeld3
namespace Go.Proofs.YtjgcanhaelabaaaDoor
open Go.ChangeShapes Go.WideShapes Go.ChangeAt Go.RowKit Go.ChangeMaps
set_option maxRecDepth 10000
set_option linter.unusedSimpArgs false
set_option linter.unusedVariables false

structure TK where
  n : Int
  h : Int
  r : Int
  t : Int
deriving DecidableEq

/-- A token, as a value. -/
abbrev tokV (n h r t : Int) : Value := .agg #[.int .i64 n, .int .i64 h, .int .i64 r, .int .i64 t]

def tokC (x : TK) : List Value := [.int .i64 x.n, .int .i64 x.h, .int .i64 x.r, .int .i64 x.t]
def toksC (l : List TK) : List Value := l.flatMap tokC
theorem toksC_length (l : List TK) : (toksC l).length = l.length * 4 := by
  induction l with
  | nil => rfl
  | cons x l ih => simp [toksC, tokC] at ih ⊢; omega
theorem toksC_append (l m : List TK) : toksC (l ++ m) = toksC l ++ toksC m := by simp [toksC]
theorem toksC_one (l : List TK) : ∀ v ∈ toksC l, v.oneCell' = true := by
  intro v hv
  obtain ⟨x, _, hx⟩ := List.mem_flatMap.1 hv
  simp only [tokC, List.mem_cons, List.not_mem_nil, or_false] at hx
  rcases hx with rfl | rfl | rfl | rfl <;> rfl
theorem toksC_at {x : TK} : ∀ (l : List TK) (i : Nat), l[i]? = some x → (toksC l)[i * 4]? = some (.int .i64 x.n) ∧ (toksC l)[i * 4 + 1]? = some (.int .i64 x.h) ∧ (toksC l)[i * 4 + 2]? = some (.int .i64 x.r) ∧ (toksC l)[i * 4 + 3]? = some (.int .i64 x.t)
  | [], i, h => by simp at h
  | y :: l, 0, h => by
    simp only [List.getElem?_cons_zero, Option.some.injEq] at h
    subst h
    exact ⟨rfl, rfl, rfl, rfl⟩
  | y :: l, i + 1, h => by
    have e : toksC (y :: l) = .int .i64 y.n :: .int .i64 y.h :: .int .i64 y.r :: .int .i64 y.t :: toksC l := rfl
    obtain ⟨h1, h2, h3, h4⟩ := toksC_at l i (by simpa using h)
    have e0 : (i + 1) * 4 = i * 4 + 1 + 1 + 1 + 1 := by omega
    rw [e, e0]
    exact ⟨by simpa using h1, by simpa using h2, by simpa using h3, by simpa using h4⟩
theorem toksC_take_succ {l : List TK} {k : Nat} {x : TK} (h : l[k]? = some x) : toksC (l.take (k + 1)) = toksC (l.take k) ++ tokC x := by
  rw [List.take_add_one, h, toksC_append]
  rfl
theorem tok_take_len {l : List TK} {k : Nat} (h : k ≤ l.length) : (l.take k).length = k := by simp; omega

theorem Lies.tok {w : World} {B n i : Nat} {A : Option Addr} {l : List TK} (h : Lies w B 4 A n (toksC l)) (hi : i < n) :
    ∃ b off x, A = some ⟨b, off, none⟩ ∧ b < B ∧ l[i]? = some x ∧ w.cell? ⟨b, off + i * 4, none⟩ = some (.int .i64 x.n) ∧ w.cell? ⟨b, off + i * 4 + 1, none⟩ = some (.int .i64 x.h) ∧ w.cell? ⟨b, off + i * 4 + 2, none⟩ = some (.int .i64 x.r) ∧ w.cell? ⟨b, off + i * 4 + 3, none⟩ = some (.int .i64 x.t) := by
  obtain ⟨hl, h2⟩ := h
  obtain ⟨b, off, rfl, hb, hc⟩ := h2 (by omega)
  rw [toksC_length] at hl
  have hil : i < l.length := by omega
  obtain ⟨h0, h1, h2, h3⟩ := toksC_at l i (List.getElem?_eq_getElem hil)
  exact ⟨b, off, l[i], rfl, hb, List.getElem?_eq_getElem hil, hc _ _ h0, hc _ _ h1, hc _ _ h2, hc _ _ h3⟩

theorem info_tok : (Tryd.prog.info? 39).map (fun i => (i.zero, i.size, i.bytes)) = some (some (.agg #[.int .i64 0, .int .i64 0, .int .i64 0, .int .i64 0]), 4, 32) := by kernel_rfl

/-- Four cells stored, one behind the other. -/
theorem set_four (xs rest : List Value) (m : Nat) (hx : xs.length = m) (hr : 4 ≤ rest.length) (u0 u1 u2 u3 : Value) :
    ((((xs ++ rest).set m u0).set (m + 1) u1).set (m + 2) u2).set (m + 3) u3 = xs ++ [u0, u1, u2, u3] ++ rest.drop 4 := by
  match rest, hr with
  | a :: b :: c :: d :: r, _ =>
    subst hx
    rw [List.set_append_right _ _ (Nat.le_refl _), List.set_append_right _ _ (by omega), List.set_append_right _ _ (by omega), List.set_append_right _ _ (by omega)]
    have e1 : xs.length + 1 - xs.length = 1 := by omega
    have e2 : xs.length + 2 - xs.length = 2 := by omega
    have e3 : xs.length + 3 - xs.length = 3 := by omega
    rw [Nat.sub_self, e1, e2, e3]
    simp
end Go.Proofs.YtjgcanhaelabaaaDoor
