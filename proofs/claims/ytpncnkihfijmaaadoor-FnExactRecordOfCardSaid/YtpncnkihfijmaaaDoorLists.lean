/-
  Slices that read as a list of cells, nil let in; rows of the call's own.
-/
import Derived.Test.YtpncnkihfijmaaaDoorOwnRow
import Derived.Test.YtpncnkihfijmaaaDoorKept
import Derived.Laws.OwnMore
namespace Go.Proofs.YtpncnkihfijmaaaDoor
open Go.ChangeShapes Go.WideShapes Go.ChangeAt Go.RowKit Go.ChangeMaps
set_option maxRecDepth 10000
set_option linter.unusedSimpArgs false
set_option linter.unusedVariables false

/-- The slice at A, of n elements of k cells each, reads as the cells xs, all below block B. -/
def Lies (w : World) (B k : Nat) (A : Option Addr) (n : Nat) (xs : List Value) : Prop :=
  xs.length = n * k ∧ (0 < n → ∃ b off, A = some ⟨b, off, none⟩ ∧ b < B ∧ ∀ j u, xs[j]? = some u → w.cell? ⟨b, off + j, none⟩ = some u)

section
variable {w w' : World} {B B' k n : Nat} {A : Option Addr} {xs : List Value}
theorem Lies.none_ : Lies w B k A 0 [] := ⟨by simp, fun h => absurd h (by omega)⟩
theorem Lies.below (h : Lies w B k A n xs) (hb : Below B w w') : Lies w' B k A n xs :=
  ⟨h.1, fun hn => by
    obtain ⟨b, off, e, hlt, hc⟩ := h.2 hn
    exact ⟨b, off, e, hlt, fun j u hu => (hb.cell (p := ⟨b, off + j, none⟩) hlt).trans (hc j u hu)⟩⟩
theorem Lies.mono (h : Lies w B k A n xs) (hB : B ≤ B') : Lies w B' k A n xs :=
  ⟨h.1, fun hn => by
    obtain ⟨b, off, e, hlt, hc⟩ := h.2 hn
    exact ⟨b, off, e, by omega, hc⟩⟩
theorem Lies.drew (h : Lies w B k A n xs) : Lies w.drew B k A n xs := h
theorem Lies.alloc (h : Lies w w.heap.size k A n xs) (o : Obj) : Lies (w.alloc o) (w.alloc o).heap.size k A n xs :=
  (h.below ((Below.refl _ w).alloc (Nat.le_refl _) o)).mono (by simp)
/-- .. behind a call that left all that lay. -/
theorem Lies.on (h : Lies w w.heap.size k A n xs) (hb : Below w.heap.size w w') : Lies w' w'.heap.size k A n xs := (h.below hb).mono hb.size
theorem Lies.own {base : Nat} {e : TypeId} {c : Nat} (h : w.ownsRow base e k (.slice A n c) n xs) : Lies w w.heap.size k A n xs := by
  refine ⟨h.1, fun hn => ?_⟩
  obtain ⟨g, cap, hv, _, _, _, hlt, hc⟩ := row_at h hn
  injection hv with hv
  subst hv
  exact ⟨g, 0, rfl, hlt, fun j u hu => by rw [Nat.zero_add]; exact hc j u hu⟩
end

/-- What a row of one's own looks like. -/
theorem own_form {w : World} {base : Nat} {e : TypeId} {k n : Nat} {v : Value} {xs : List Value} (h : w.ownsRow base e k v n xs) :
    ∃ A cap, v = .slice A n cap ∧ n ≤ cap ∧ cap ≤ maxLen := by
  rcases h.2 with ⟨rfl, rfl⟩ | ⟨g, cap, cur, rfl, _, _, h1, h2, _⟩
  · exact ⟨none, 0, rfl, Nat.le_refl _, Nat.zero_le _⟩
  · exact ⟨_, cap, rfl, h1, h2⟩

/-- A row of one's own behind writes to another block, or to none. -/
theorem own_grown {w w' : World} {base : Nat} {e : TypeId} {k n : Nat} {v : Value} {xs : List Value} {row : Option Nat} (h : w.ownsRow base e k v n xs) (hg : w.grownBy w' row) (hne : ∀ g, v.ownBlock = some g → row ≠ some g) : w'.ownsRow base e k v n xs := by
  refine h.kept hg ?_
  cases hv : v.ownBlock with
  | none => exact .inl rfl
  | some g => exact .inr fun he => hne g hv (by rw [← he])

theorem grown_of_below {w w' : World} (h : Below w.heap.size w w') (row : Option Nat) : w.grownBy w' row :=
  ⟨h.os, h.tape, h.output, h.size, fun k hk _ => h.block k hk⟩

theorem below_of_grown {B : Nat} {w w' : World} {row : Option Nat} (hg : w.grownBy w' row) (hB : B ≤ w.heap.size) (hr : ∀ g, row = some g → B ≤ g) : Below B w w' :=
  (Below.refl B w).grown hg hB hr

/-- A reading of old memory behind writes to a block that lies further on, or to none. -/
theorem Lies.grown {w w' : World} {B k n : Nat} {A : Option Addr} {xs : List Value} {row : Option Nat} (h : Lies w B k A n xs) (hg : w.grownBy w' row) (hB : B ≤ w.heap.size) (hr : ∀ g, row = some g → B ≤ g) : Lies w' B k A n xs :=
  h.below (below_of_grown hg hB hr)

section
variable {P : Program} {w : World} {ops : Array Oper} {rest : List Oper} {a : Act} {Q : Exit → Act → World → Prop}
/-- make([]T, n). -/
theorem wpList_make_rows {dst : Option Tmp} {ty : TypeId} {pos : String} {after : Array Edge} {x y : Operand} {t e : TypeId} {z : Value} {k bytes : Nat}
    (ht : P.underlying t = some (.slice e)) (hi : (P.info? e).map (fun i => (i.zero, i.size, i.bytes)) = some (some z, k, bytes)) (hby : bytes ≤ 1000)
    (n : Nat) (c : Int) (hx : a.eval x = .int .i64 c) (hy : a.eval y = .int .i64 c) (hc : c = n) (hn : n ≤ 1099511627)
    (h : ∀ zs w', w'.ownsRow w.heap.size e k (.slice (some ⟨w.heap.size, 0, none⟩) n n) n zs → zs.length = n * k → Below w.heap.size w w' → w.heap.size < w'.heap.size → wpList P ops Q rest (a.put dst (.slice (some ⟨w.heap.size, 0, none⟩) n n)) w') :
    wpList P ops Q (⟨dst, .makeSlice t x y, ty, pos, after, none⟩ :: rest) a w := by
  obtain ⟨i0, hi0, hz0, hz1, hz2⟩ := info_parts hi
  have hb : i0.bytes * n ≤ 281474976710656 := by rw [hz2]; exact Nat.le_trans (Nat.mul_le_mul_right _ hby) (by omega)
  refine wpList_make_full w rfl x y t rfl w.heap.size e i0 z k ht hi0 hz0 hz1 .i64 .i64 c c n hx hy hc hc hb (by unfold maxLen; omega) (Nat.le_refl _) ?_
  intro w' hown hg
  have hlt : w.heap.size < w'.heap.size := by
    rcases hown.2 with ⟨h0, _⟩ | ⟨g, cap, cur, hv, _, hh, _⟩
    · cases h0
    · injection hv with h1 _ h3
      injection h1 with h1
      injection h1 with h1
      subst h1
      exact (Array.getElem?_eq_some_iff.1 hh).1
  exact h _ w' hown hown.1 ((Below.refl _ w).grown hg (Nat.le_refl _) (by simp)) hlt
end

/-- Three cells stored, one behind the other. -/
theorem set_three (xs rest : List Value) (m : Nat) (hx : xs.length = m) (hr : 3 ≤ rest.length) (u0 u1 u2 : Value) :
    (((xs ++ rest).set m u0).set (m + 1) u1).set (m + 2) u2 = xs ++ [u0, u1, u2] ++ rest.drop 3 := by
  match rest, hr with
  | a :: b :: c :: r, _ =>
    subst hx
    rw [List.set_append_right _ _ (Nat.le_refl _), List.set_append_right _ _ (by omega), List.set_append_right _ _ (by omega)]
    have e1 : xs.length + 1 - xs.length = 1 := by omega
    have e2 : xs.length + 2 - xs.length = 2 := by omega
    rw [Nat.sub_self, e1, e2]
    simp
theorem set_one (xs rest : List Value) (m : Nat) (hx : xs.length = m) (hr : 1 ≤ rest.length) (u0 : Value) :
    (xs ++ rest).set m u0 = xs ++ [u0] ++ rest.drop 1 := by
  match rest, hr with
  | a :: r, _ =>
    subst hx
    rw [List.set_append_right _ _ (Nat.le_refl _), Nat.sub_self]
    simp
end Go.Proofs.YtpncnkihfijmaaaDoor
