/-
  Tokens: as values, as cells, as lists; the laws' own size, copy and equality of them.
-/
import Derived.Test.YtjgcanhaelabaaaIs
import Derived.Test.YtjgcanhaelabaaaLists
import Derived.Deep.RegionHeld3
namespace Go.Proofs.Ytjgcanhaelabaaa
open Go.ChangeShapes Go.WideShapes Go.ChangeAt Go.RowKit Go.ChangeMaps
set_option linter.unusedSimpArgs false
set_option linter.unusedVariables false

structure TK where
  n : Int
  h : Int
  r : Int
  t : Int
deriving DecidableEq

/-- A token, as a value. -/
abbrev tokV (n h r t : Int) : Value := .agg #[.int .i64 n, .int .i64 h, .int .i64 r, .int .i64 t]

def tokC (x : TK) : List Value := [.int .i64 x.n, .int .i64 x.h, .int .i64 x.r, .int .i64 x.t]
def toksC (l : List TK) : List Value := l.flatMap tokC
theorem toksC_length (l : List TK) : (toksC l).length = l.length * 4 := by
  induction l with
  | nil => rfl
  | cons x l ih => simp [toksC, tokC] at ih ⊢; omega
theorem toksC_append (l m : List TK) : toksC (l ++ m) = toksC l ++ toksC m := by simp [toksC]
theorem toksC_one (l : List TK) : ∀ v ∈ toksC l, v.oneCell' = true := by
  intro v hv
  obtain ⟨x, _, hx⟩ := List.mem_flatMap.1 hv
  simp only [tokC, List.mem_cons, List.not_mem_nil, or_false] at hx
  rcases hx with rfl | rfl | rfl | rfl <;> rfl
theorem toksC_at {x : TK} : ∀ (l : List TK) (i : Nat), l[i]? = some x → (toksC l)[i * 4]? = some (.int .i64 x.n) ∧ (toksC l)[i * 4 + 1]? = some (.int .i64 x.h) ∧ (toksC l)[i * 4 + 2]? = some (.int .i64 x.r) ∧ (toksC l)[i * 4 + 3]? = some (.int .i64 x.t)
  | [], i, h => by simp at h
  | y :: l, 0, h => by
    simp only [List.getElem?_cons_zero, Option.some.injEq] at h
    subst h
    exact ⟨rfl, rfl, rfl, rfl⟩
  | y :: l, i + 1, h => by
    have e : toksC (y :: l) = .int .i64 y.n :: .int .i64 y.h :: .int .i64 y.r :: .int .i64 y.t :: toksC l := rfl
    obtain ⟨h1, h2, h3, h4⟩ := toksC_at l i (by simpa using h)
    have e0 : (i + 1) * 4 = i * 4 + 1 + 1 + 1 + 1 := by omega
    rw [e, e0]
    exact ⟨by simpa using h1, by simpa using h2, by simpa using h3, by simpa using h4⟩
theorem toksC_take_succ {l : List TK} {k : Nat} {x : TK} (h : l[k]? = some x) : toksC (l.take (k + 1)) = toksC (l.take k) ++ tokC x := by
  rw [List.take_add_one, h, toksC_append]
  rfl
theorem tok_take_len {l : List TK} {k : Nat} (h : k ≤ l.length) : (l.take k).length = k := by simp; omega

theorem Lies.tok {w : World} {B n i : Nat} {A : Option Addr} {l : List TK} (h : Lies w B 4 A n (toksC l)) (hi : i < n) :
    ∃ b off x, A = some ⟨b, off, none⟩ ∧ b < B ∧ l[i]? = some x ∧ w.cell? ⟨b, off + i * 4, none⟩ = some (.int .i64 x.n) ∧ w.cell? ⟨b, off + i * 4 + 1, none⟩ = some (.int .i64 x.h) ∧ w.cell? ⟨b, off + i * 4 + 2, none⟩ = some (.int .i64 x.r) ∧ w.cell? ⟨b, off + i * 4 + 3, none⟩ = some (.int .i64 x.t) := by
  obtain ⟨hl, h2⟩ := h
  obtain ⟨b, off, rfl, hb, hc⟩ := h2 (by omega)
  rw [toksC_length] at hl
  have hil : i < l.length := by omega
  obtain ⟨h0, h1, h2, h3⟩ := toksC_at l i (List.getElem?_eq_getElem hil)
  exact ⟨b, off, l[i], rfl, hb, List.getElem?_eq_getElem hil, hc _ _ h0, hc _ _ h1, hc _ _ h2, hc _ _ h3⟩

set_option maxHeartbeats 1000000 in
theorem szTokenS_any (l : List TK) (A : Option Addr) (cap : Nat) (n : Int) (w : World) (hm : l.length ≤ maxLen) (h0 : 0 ≤ n) (h1 : n ≤ 1048576) :
    Calls Try.prog 7 #[.slice A l.length cap, .int .i64 n] w fun e w' => e = .returned (.int .i64 (if n < l.length then -1 else n - l.length)) ∧ w = w' := by
  unfold maxLen at hm
  by_cases hn : n < l.length
  · go_enter Try.func7, Try.ntmps7
    go_wp2
    go_ret
    exact ⟨rfl, rfl⟩
  · go_enter Try.func7, Try.ntmps7
    go_wp2
    go_ret
    exact ⟨rfl, rfl⟩

set_option maxHeartbeats 400000 in
theorem toToken_any (n h r t : Int) (w : World) : Calls Try.prog 25 #[tokV n h r t] w fun e w' => e = .returned (tokV n h r t) ∧ Below w.heap.size w w' := by
  go_enter Try.func25, Try.ntmps25
  go_wp2
  refine bodyPost_ret (v := tokV n h r t) (by simp [results, Try.results25, go_sem]) rfl ?_
  exact ⟨rfl, by go_grown⟩

set_option maxHeartbeats 400000 in
theorem eqToken_same (n h r t : Int) (w : World) : Calls Try.prog 22 #[tokV n h r t, tokV n h r t] w fun e w' => e = .returned (.bool true) ∧ Below w.heap.size w w' := by
  go_enter Try.func22, Try.ntmps22
  go_wp2
  go_ret
  exact ⟨rfl, by go_grown⟩

theorem info_tok : (Try.prog.info? 39).map (fun i => (i.zero, i.size, i.bytes)) = some (some (.agg #[.int .i64 0, .int .i64 0, .int .i64 0, .int .i64 0]), 4, 32) := by kernel_rfl

/-- Four cells stored, one behind the other. -/
theorem set_four (xs rest : List Value) (m : Nat) (hx : xs.length = m) (hr : 4 ≤ rest.length) (u0 u1 u2 u3 : Value) :
    ((((xs ++ rest).set m u0).set (m + 1) u1).set (m + 2) u2).set (m + 3) u3 = xs ++ [u0, u1, u2, u3] ++ rest.drop 4 := by
  match rest, hr with
  | a :: b :: c :: d :: r, _ =>
    subst hx
    rw [List.set_append_right _ _ (Nat.le_refl _), List.set_append_right _ _ (by omega), List.set_append_right _ _ (by omega), List.set_append_right _ _ (by omega)]
    have e1 : xs.length + 1 - xs.length = 1 := by omega
    have e2 : xs.length + 2 - xs.length = 2 := by omega
    have e3 : xs.length + 3 - xs.length = 3 := by omega
    rw [Nat.sub_self, e1, e2, e3]
    simp

set_option maxHeartbeats 1000000 in
theorem toTokenS_any (l : List TK) (A : Option Addr) (cap : Nat) (w : World) (hl : Lies w w.heap.size 4 A l.length (toksC l)) (hm : l.length ≤ 1099511627) :
    Calls Try.prog 9 #[.slice A l.length cap] w fun e w' => e = .returned (.slice (some ⟨w.heap.size, 0, none⟩) l.length l.length) ∧
      w'.ownsRow w.heap.size 39 4 (.slice (some ⟨w.heap.size, 0, none⟩) l.length l.length) l.length (toksC l) ∧ Below w.heap.size w w' := by
  go_enter Try.func9, Try.ntmps9
  go_wp2_with (first | (refine wpList_make_rows Try.underlying25 info_tok (by omega) l.length _ rfl rfl rfl (by omega) ?_; intro zs w1 hown hzs hb1 hlt1))
  go_loopw [4] (fun i wr => ∃ (k : Nat) (rest : List Value), k ≤ l.length ∧ i = .int .i64 k ∧ rest.length = (l.length - k) * 4 ∧ wr.ownsRow w.heap.size 39 4 (.slice (some ⟨w.heap.size, 0, none⟩) l.length l.length) l.length (toksC (l.take k) ++ rest) ∧
      Below w.heap.size w wr ∧ w.heap.size < wr.heap.size) (fun i _ => l.length - (intOf i).toNat)
  case atStart => exact ⟨0, zs, Nat.zero_le _, rfl, by simpa using hzs, by simpa [toksC] using hown, hb1, hlt1⟩
  case round =>
    obtain ⟨k, rest, hk, rfl, hrl, hown, hB, hz⟩ := hrel
    by_cases hlt : k < l.length
    · obtain ⟨b, off, x, rfl, hb, hx, c0, c1, c2, c3⟩ := (hl.below hB).tok hlt
      have hTL : (toksC (l.take k)).length = k * 4 := by rw [toksC_length, tok_take_len hk]
      have HS := Lib.hid (toksC_take_succ hx)
      have HT : Hid (∀ W : World, Calls Try.prog 25 #[tokV x.n x.h x.r x.t] W fun e w' => e = .returned (tokV x.n x.h x.r x.t) ∧ Below W.heap.size W w') := fun W => toToken_any x.n x.h x.r x.t W
      have H4 := Lib.hid (set_four (toksC (l.take k)) rest (k * 4) hTL (by omega) (.int .i64 x.n) (.int .i64 x.h) (.int .i64 x.r) (.int .i64 x.t))
      have HL := Lib.hid hown.1
      generalize toksC (l.take k) = X at *
      clear hx hTL
      go_wp2_with fail
      refine (HT.out _).mono ?_
      rintro e w2 ⟨rfl, hb2⟩
      have hown2 := ownsRow_below hown hb2
      have f0 := hown2.frozenAt (k * 4)
      have f1 := hown2.frozenAt (k * 4 + 1)
      have f2 := hown2.frozenAt (k * 4 + 2)
      have f3 := hown2.frozenAt (k * 4 + 3)
      have hlen := HL.out
      obtain ⟨u0, d0⟩ : ∃ u, w2.cell? ⟨w.heap.size, k * 4, none⟩ = some u := ⟨_, (hown2.cellAt (k * 4) (by omega)).trans (List.getElem?_eq_getElem (by omega))⟩
      obtain ⟨u1, d1⟩ : ∃ u, w2.cell? ⟨w.heap.size, k * 4 + 1, none⟩ = some u := ⟨_, (hown2.cellAt (k * 4 + 1) (by omega)).trans (List.getElem?_eq_getElem (by omega))⟩
      obtain ⟨u2, d2⟩ : ∃ u, w2.cell? ⟨w.heap.size, k * 4 + 2, none⟩ = some u := ⟨_, (hown2.cellAt (k * 4 + 2) (by omega)).trans (List.getElem?_eq_getElem (by omega))⟩
      obtain ⟨u3, d3⟩ : ∃ u, w2.cell? ⟨w.heap.size, k * 4 + 3, none⟩ = some u := ⟨_, (hown2.cellAt (k * 4 + 3) (by omega)).trans (List.getElem?_eq_getElem (by omega))⟩
      have hown3 := (((hown2.stored (k * 4) (.int .i64 x.n)).1.stored (k * 4 + 1) (.int .i64 x.h)).1.stored (k * 4 + 2) (.int .i64 x.r)).1.stored (k * 4 + 3) (.int .i64 x.t) |>.1
      rw [H4.out] at hown3
      have HO := Lib.hid hown3
      have hB2 := hB.trans (hb2.mono hB.size)
      have hz2 := Nat.lt_of_lt_of_le hz hb2.size
      clear hown hown2 hown3 hlen hb2 hB
      go_wp2_with fail
      go_roundw
      case rel => exact ⟨k + 1, rest.drop 4, by omega, by go_num, by simp; omega, by rw [HS.out]; exact HO.out, (((hB2.setCell (by simp) _).setCell (by simp) _).setCell (by simp) _).setCell (by simp) _, by simpa using hz2⟩
      case measure => simp [intOf]; omega
    · obtain rfl : k = l.length := by omega
      obtain rfl : rest = [] := List.eq_nil_of_length_eq_zero (by omega)
      rw [List.take_length, List.append_nil] at hown
      go_wp2
      go_ret
      exact ⟨rfl, hown, hB⟩

set_option maxHeartbeats 1000000 in
theorem eqTokenS_same (l : List TK) (A A' : Option Addr) (n cap cap' : Nat) (w : World) (hn : l.length = n) (hl : Lies w w.heap.size 4 A n (toksC l)) (hl' : Lies w w.heap.size 4 A' n (toksC l)) (hm : n ≤ 1099511627) :
    Calls Try.prog 11 #[.slice A n cap, .slice A' n cap'] w fun e w' => e = .returned (.bool true) ∧ Below w.heap.size w w' := by
  have HN := Lib.hid hn
  clear hn
  go_enter Try.func11, Try.ntmps11
  go_wp2
  go_loopw [5] (fun i wr => ∃ k : Nat, k ≤ n ∧ i = .int .i64 k ∧ Below w.heap.size w wr) (fun i _ => n - (intOf i).toNat)
  case atStart => exact ⟨0, Nat.zero_le _, rfl, Below.refl _ _⟩
  case round =>
    obtain ⟨k, hk, rfl, hB⟩ := hrel
    by_cases hlt : k < n
    · obtain ⟨b, off, x, rfl, hlb, hx, c0, c1, c2, c3⟩ := (hl.below hB).tok hlt
      obtain ⟨b', off', x', rfl, hlb', hx', d0, d1, d2, d3⟩ := (hl'.below hB).tok hlt
      obtain rfl : x' = x := Option.some.inj (hx'.symm.trans hx)
      have HT : Hid (∀ W : World, Calls Try.prog 22 #[tokV x'.n x'.h x'.r x'.t, tokV x'.n x'.h x'.r x'.t] W fun e w' => e = .returned (.bool true) ∧ Below W.heap.size W w') := fun W => eqToken_same x'.n x'.h x'.r x'.t W
      have hz := hB.size
      have hBd := hB.drew
      clear hx hx' hl hl'
      go_wp2_with fail
      go_region_held3 (fun W => W.cell? ⟨b, off + k * 4, none⟩ = some (.int .i64 x'.n) ∧ W.cell? ⟨b, off + k * 4 + 1, none⟩ = some (.int .i64 x'.h) ∧ W.cell? ⟨b, off + k * 4 + 2, none⟩ = some (.int .i64 x'.r) ∧ W.cell? ⟨b, off + k * 4 + 3, none⟩ = some (.int .i64 x'.t) ∧ W.cell? ⟨b', off' + k * 4, none⟩ = some (.int .i64 x'.n) ∧ W.cell? ⟨b', off' + k * 4 + 1, none⟩ = some (.int .i64 x'.h) ∧ W.cell? ⟨b', off' + k * 4 + 2, none⟩ = some (.int .i64 x'.r) ∧ W.cell? ⟨b', off' + k * 4 + 3, none⟩ = some (.int .i64 x'.t) ∧ Below w.heap.size w W ∧ w.heap.size ≤ W.heap.size)
        (first | (go_keep; done) | (go_split_ands; exact ⟨kc hb (by assumption) (by omega), kc hb (by assumption) (by omega), kc hb (by assumption) (by omega), kc hb (by assumption) (by omega), kc hb (by assumption) (by omega), kc hb (by assumption) (by omega), kc hb (by assumption) (by omega), kc hb (by assumption) (by omega), bstep hb (by assumption) (by omega), zstep hb (by assumption)⟩))
        (first | (go_at_call 22; refine (HT.out _).mono ?_; rintro e w' ⟨rfl, hb⟩))
      rename_i hHeld
      obtain ⟨-, -, -, -, -, -, -, -, hB, -⟩ := hHeld
      go_wp2_with fail
      go_roundw
      case rel => exact ⟨k + 1, by omega, by go_num, hB⟩
      case measure => simp [intOf]; omega
    · obtain rfl : k = n := by omega
      clear hl hl'
      go_wp2
      go_ret
      exact ⟨rfl, hB⟩
end Go.Proofs.Ytjgcanhaelabaaa
