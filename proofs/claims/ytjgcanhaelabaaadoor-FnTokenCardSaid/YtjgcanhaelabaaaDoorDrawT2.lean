/-
  The spec's draws: tokens, right ones as a rule.
-/
import Derived.Test.YtjgcanhaelabaaaDoorDrawT
import Derived.Test.YtjgcanhaelabaaaDoorOwnRow
namespace Go.Proofs.YtjgcanhaelabaaaDoor
open Go.ChangeShapes Go.WideShapes Go.ChangeAt Go.RowKit Go.ChangeMaps
set_option maxRecDepth 10000
set_option linter.unusedSimpArgs false
set_option linter.unusedVariables false

theorem SrcAt.row {A : Option Addr} {l : List UInt8} {c g b : Nat} {W W' : World} (h : SrcAt A l c g W) (hg : W.grownBy W' (some b)) (hb : g < b) : SrcAt A l c g W' := by
  obtain ⟨k, m, s, h1, h2, h3⟩ := h
  exact ⟨k, m, s, h1.kept hg (fun e => by have := Option.some.inj e; omega), h2, h3.below (below_of_grown hg (Nat.le_of_lt h1.lt) (fun g' e => by have := Option.some.inj e; omega))⟩
theorem SrcAt.lt {A : Option Addr} {l : List UInt8} {c g : Nat} {W : World} (h : SrcAt A l c g W) : g < W.heap.size := by obtain ⟨_, _, _, h1, -⟩ := h; exact h1.lt
/-- A walk's world: the source lies, below it nothing has turned. -/
def SrcB (A : Option Addr) (l : List UInt8) (c g : Nat) (w W : World) : Prop := SrcAt A l c g W ∧ Below g w W ∧ w.heap.size ≤ W.heap.size ∧ g < w.heap.size
section
variable {A : Option Addr} {l : List UInt8} {c g : Nat} {w W W' : World}
theorem SrcB.start (h : SrcAt A l c g w) : SrcB A l c g w w := ⟨h, Below.refl _ _, Nat.le_refl _, h.lt⟩
theorem SrcB.on (h : SrcB A l c g w W) (hb : Below W.heap.size W W') : SrcB A l c g w W' := ⟨h.1.on hb, h.2.1.trans (hb.mono (Nat.le_of_lt h.1.lt)), Nat.le_trans h.2.2.1 hb.size, h.2.2.2⟩
theorem SrcB.n (h : SrcB A l c g w W) (h1 : SrcAt A l c g W') (h2 : W.grownBy W' (some g)) : SrcB A l c g w W' :=
  ⟨h1, h.2.1.trans (below_of_grown h2 (Nat.le_of_lt h.1.lt) (fun g' e => by have := Option.some.inj e; omega)), Nat.le_trans h.2.2.1 h2.size, h.2.2.2⟩
theorem SrcB.row {b : Nat} (h : SrcB A l c g w W) (h2 : W.grownBy W' (some b)) (hb : g < b) : SrcB A l c g w W' :=
  ⟨h.1.row h2 hb, h.2.1.trans (below_of_grown h2 (Nat.le_of_lt h.1.lt) (fun g' e => by have := Option.some.inj e; omega)), Nat.le_trans h.2.2.1 h2.size, h.2.2.2⟩
/-- What grew from the row's base on lets the source be. -/
theorem SrcB.from_ (h : SrcB A l c g w W) (hb : Below w.heap.size W W') (hs : W.heap.size ≤ W'.heap.size) : SrcB A l c g w W' := by
  have hg := h.2.2.2
  obtain ⟨⟨k, m, s, h1, h2, h3⟩, h4, h5, h6⟩ := h
  exact ⟨⟨k, m, s, h1.below hb hg, h2, h3.below (hb.mono (Nat.le_of_lt hg))⟩, h4.trans (hb.mono (Nat.le_of_lt hg)), Nat.le_trans h5 hs, h6⟩
end

theorem toksC_set (f : TK → TK) (v : Value) (j : Nat) (hf : ∀ x, tokC (f x) = (tokC x).set j v) (hj : j < 4) : ∀ (L : List TK) (i : Nat), i < L.length → toksC (L.modify i f) = (toksC L).set (i * 4 + j) v
  | [], i, h => by simp at h
  | x :: L, 0, h => by
    have e : ∀ (y : TK) (M : List TK), toksC (y :: M) = tokC y ++ toksC M := fun y M => rfl
    rw [List.modify_zero_cons, e, e, hf, List.set_append_left _ _ (by simp [tokC]; omega)]
    simp
  | x :: L, i + 1, h => by
    have e : ∀ (y : TK) (M : List TK), toksC (y :: M) = tokC y ++ toksC M := fun y M => rfl
    rw [List.modify_succ_cons, e, e, toksC_set f v j hf hj L i (by simpa using h), List.set_append_right _ _ (by simp [tokC]; omega)]
    congr 2
    simp [tokC]; omega
theorem toksC_setN (L : List TK) (i : Nat) (x : Int) (h : i < L.length) : toksC (L.modify i (fun y => ⟨x, y.h, y.r, y.t⟩)) = (toksC L).set (i * 4) (.int .i64 x) :=
  toksC_set _ _ 0 (fun _ => rfl) (by omega) L i h
theorem toksC_setR (L : List TK) (i : Nat) (x : Int) (h : i < L.length) : toksC (L.modify i (fun y => ⟨y.n, y.h, x, y.t⟩)) = (toksC L).set (i * 4 + 2) (.int .i64 x) :=
  toksC_set _ _ 2 (fun _ => rfl) (by omega) L i h

/-- What l04Tokens gives. -/
def TokGot (g : Nat) (w : World) (e : Ending) (w' : World) : Prop := (∃ (L : List TK) (B : Option Addr) (cB : Nat), e = .returned (.slice B L.length cB) ∧ L.length ≤ 30 ∧ w'.ownsRow w.heap.size 39 4 (.slice B L.length cB) L.length (toksC L)) ∧ Below g w w'

/-- How far the appends of l04Tokens have come. -/
def TokRel (A : Option Addr) (l : List UInt8) (c g : Nat) (w : World) (v k : Value) (W : World) : Prop :=
  ∃ (i : Nat) (L : List TK) (B : Option Addr) (cB : Nat), i ≤ 18 ∧ k = .int .i64 i ∧ v = .slice B L.length cB ∧ L.length ≤ 7 + i ∧
    W.ownsRow w.heap.size 39 4 (.slice B L.length cB) L.length (toksC L) ∧ SrcB A l c g w W

set_option maxHeartbeats 8000000 in
theorem l04Tokens_any (A : Option Addr) (l : List UInt8) (c g : Nat) (w : World) (h : SrcAt A l c g w) (hl : l.length ≤ maxLen) :
    Calls Tryd.prog 31 #[.pointer (some ⟨g, 0, none⟩)] w (TokGot g w) := by
  have hg : g < w.heap.size := h.lt
  have HN : Hid (∀ (W : World) (m : Int), SrcAt A l c g W → m ≤ 1000000 → Calls Tryd.prog 28 #[.pointer (some ⟨g, 0, none⟩), .int .i64 m] W fun e w' => (∃ r : Int, e = .returned (.int .i64 r) ∧ 0 ≤ r ∧ (r < m ∨ r = 0)) ∧ SrcAt A l c g w' ∧ W.grownBy w' (some g)) := fun W m h1 h2 => srcN_any A l c g m W h1 hl h2
  have HT := Lib.hid (tokensOf_any A l c g w h hl)
  have HB0 := SrcB.start h
  clear h
  go_enter Tryd.func31, Tryd.ntmps31
  go_wp2_with fail
  refine HT.out.mono ?_
  rintro e w1 ⟨⟨L, B, cB, rfl, hL3, hL7, hR1⟩, hG1⟩
  have hB1 := HB0.n hG1.1 hG1.2.1
  clear hG1 HB0 HT
  go_wp2_with fail
  refine (HN.out _ 12 hB1.1 (by omega)).mono ?_
  rintro e w2 ⟨⟨r, rfl, r0, r1⟩, k1, k2⟩
  have hB2 := hB1.n k1 k2
  have hR2 := row_draw hR1 k2 hg
  clear hB1 hR1 k1 k2
  by_cases c0 : r = 0
  · subst c0
    obtain ⟨b, cap, hv, hbg, _, _, hblt, _⟩ := row_at hR2 (by omega)
    injection hv with hv _ hv2
    subst hv hv2
    have hR3 := hR2.alloc (.cells #[.int .i64 0, .int .i64 5, .int .i64 999, .int .i64 1000] 2)
    have hB3 := hB2.on ((Below.refl _ w2).alloc (Nat.le_refl _) (.cells #[.int .i64 0, .int .i64 5, .int .i64 999, .int .i64 1000] 2))
    have hX := Block.new w2 #[.int .i64 0, .int .i64 5, .int .i64 999, .int .i64 1000] 2
    have hz := hB2.2.2.1
    clear hR2 hB2
    go_wp2_with fail
    refine (HN.out _ 4 hB3.1 (by omega)).mono ?_
    rintro e w4 ⟨⟨r3, rfl, d0, d1⟩, k1, k2⟩
    have hB4 := hB3.n k1 k2
    have hR4 := row_draw hR3 k2 hg
    have hX4 := hX.kept k2 (fun e => by have := Option.some.inj e; omega)
    obtain ⟨j, rfl⟩ := nat_of d0
    have hj : j < 4 := by omega
    obtain ⟨t, ht⟩ : ∃ t : Int, w4.cell? ⟨w2.heap.size, j, none⟩ = some (.int .i64 t) := by
      rw [hX4.cell j]
      have : j = 0 ∨ j = 1 ∨ j = 2 ∨ j = 3 := by omega
      rcases this with rfl | rfl | rfl | rfl <;> exact ⟨_, rfl⟩
    have hj2 : (j : Int) < 4 := by omega
    have f0 := hR4.frozenAt 0
    have hlen : (toksC L).length = L.length * 4 := toksC_length L
    obtain ⟨u0, q0⟩ : ∃ u, w4.cell? ⟨b, 0, none⟩ = some u := ⟨_, (hR4.cellAt 0 (by omega)).trans (List.getElem?_eq_getElem (by omega))⟩
    have s1 := hR4.stored 0 (.int .i64 t)
    have hR5 := s1.1
    rw [show (toksC L).set 0 (.int .i64 t) = toksC (L.modify 0 (fun y => ⟨t, y.h, y.r, y.t⟩)) from (toksC_setN L 0 t (by omega)).symm] at hR5
    have hB5 := hB4.row s1.2 (by omega)
    have HF := Lib.hid (And.intro hR5 hB5.2.1)
    clear hX hX4 k1 k2 hR3 hB3 hB4 hR4 s1 hR5 hB5 hlen
    have hL0 : (0 : Int) < (L.length : Int) := by omega
    go_wp2_with fail
    go_ret
    exact ⟨⟨L.modify 0 (fun y => ⟨t, y.h, y.r, y.t⟩), some ⟨b, 0, none⟩, cB, by simp, by simp; omega, by simpa using HF.out.1⟩, HF.out.2⟩
  by_cases c1 : r = 1
  · subst c1
    obtain ⟨b, cap, hv, hbg, _, _, hblt, _⟩ := row_at hR2 (by omega)
    injection hv with hv _ hv2
    subst hv hv2
    have hR3 := hR2.alloc (.cells #[.int .i64 999, .int .i64 1000] 2)
    have hB3 := hB2.on ((Below.refl _ w2).alloc (Nat.le_refl _) (.cells #[.int .i64 999, .int .i64 1000] 2))
    have hX := Block.new w2 #[.int .i64 999, .int .i64 1000] 2
    have hz := hB2.2.2.1
    clear hR2 hB2
    go_wp2_with fail
    refine (HN.out _ 2 hB3.1 (by omega)).mono ?_
    rintro e w4 ⟨⟨r3, rfl, d0, d1⟩, k1, k2⟩
    have hB4 := hB3.n k1 k2
    have hR4 := row_draw hR3 k2 hg
    have hX4 := hX.kept k2 (fun e => by have := Option.some.inj e; omega)
    obtain ⟨j, rfl⟩ := nat_of d0
    have hj : j < 2 := by omega
    obtain ⟨t, ht⟩ : ∃ t : Int, w4.cell? ⟨w2.heap.size, j, none⟩ = some (.int .i64 t) := by
      rw [hX4.cell j]
      have : j = 0 ∨ j = 1 := by omega
      rcases this with rfl | rfl <;> exact ⟨_, rfl⟩
    have hj2 : (j : Int) < 2 := by omega
    obtain ⟨n, hn⟩ : ∃ n, L.length = n + 1 := ⟨L.length - 1, by omega⟩
    have f0 := hR4.frozenAt (n * 4)
    have hlen : (toksC L).length = L.length * 4 := toksC_length L
    obtain ⟨u0, q0⟩ : ∃ u, w4.cell? ⟨b, n * 4, none⟩ = some u := ⟨_, (hR4.cellAt (n * 4) (by omega)).trans (List.getElem?_eq_getElem (by omega))⟩
    have s1 := hR4.stored (n * 4) (.int .i64 t)
    have hR5 := s1.1
    rw [show (toksC L).set (n * 4) (.int .i64 t) = toksC (L.modify n (fun y => ⟨t, y.h, y.r, y.t⟩)) from (toksC_setN L n t (by omega)).symm] at hR5
    have hB5 := hB4.row s1.2 (by omega)
    have HF := Lib.hid (And.intro hR5 hB5.2.1)
    clear hX hX4 k1 k2 hR3 hB3 hB4 hR4 s1 hR5 hB5 hlen
    have HLN := Lib.hid hn
    rw [hn]
    have e1 : ((n + 1 : Nat) : Int) - 1 = (n : Int) := by omega
    have hn3 : n ≤ 7 := by omega
    clear hn hL3 hL7
    go_wp2_with fail
    go_ret
    exact ⟨⟨L.modify n (fun y => ⟨t, y.h, y.r, y.t⟩), some ⟨b, 0, none⟩, cB, by simp [HLN.out], by simp [HLN.out]; omega, by simpa [HLN.out] using HF.out.1⟩, HF.out.2⟩
  by_cases c2 : r = 2
  · subst c2
    go_wp2_with fail
    go_loopw [3, 4] (fun v k W => TokRel A l c g w v k W) (fun _ k _ => 18 - (intOf k).toNat)
    case atStart => exact ⟨0, L, B, cB, by omega, rfl, rfl, by omega, hR2, hB2⟩
    case round =>
      clear hR2 hB2 hL3 hL7
      obtain ⟨i, L, B, cB, hi, rfl, rfl, hLi, hR, hB⟩ := hrel
      go_wp2_with fail
      refine (HN.out _ 4 hB.1 (by omega)).mono ?_
      rintro e w3 ⟨⟨q, rfl, a0, a1⟩, k1, k2⟩
      have hB3 := hB.n k1 k2
      have hR3 := row_draw hR k2 hg
      clear hB hR k1 k2
      have hw1 : IntKind.i64.wrap (15 + q) = 15 + q := IntWalk.i64_in _ (by omega)
      by_cases hlt : (i : Int) < 15 + q
      · have hz := hB3.2.2.1
        have hw2 : IntKind.i64.wrap (50 + (i : Int)) = 50 + (i : Int) := IntWalk.i64_in _ (by omega)
        go_wp2_with (at_builtin; refine wpList_append_elem Tryd.underlying24 info_tok rfl (by decide) (by decide) w.heap.size _ _ _ rfl hR3 rfl rfl (fun u hu => toksC_one [⟨50 + (i : Int), 1, 1, 0⟩] u (by simpa [toksC, tokC] using hu)) (by omega) (by omega) ?_; intro v2 w4 hown2 hb2; obtain ⟨A2, c2', rfl, -, -⟩ := own_form hown2)
        go_roundw
        case rel => exact ⟨i + 1, L ++ [⟨50 + (i : Int), 1, 1, 0⟩], A2, c2', by omega, by go_num, by simp, by simp; omega, by simpa [toksC, tokC] using hown2, hB3.from_ hb2 hb2.size⟩
        case measure => simp [intOf]; omega
      · go_wp2_with fail
        go_ret
        exact ⟨⟨L, B, cB, rfl, by omega, hR3⟩, hB3.2.1⟩
  by_cases c3 : r = 3
  · subst c3
    obtain ⟨b, cap, hv, hbg, _, _, hblt, _⟩ := row_at hR2 (by omega)
    injection hv with hv _ hv2
    subst hv hv2
    go_wp2_with fail
    refine (HN.out _ 5 hB2.1 (by omega)).mono ?_
    rintro e w4 ⟨⟨t, rfl, d0, d1⟩, k1, k2⟩
    have hB4 := hB2.n k1 k2
    have hR4 := row_draw hR2 k2 hg
    have f0 := hR4.frozenAt 2
    have hlen : (toksC L).length = L.length * 4 := toksC_length L
    obtain ⟨u0, q0⟩ : ∃ u, w4.cell? ⟨b, 2, none⟩ = some u := ⟨_, (hR4.cellAt 2 (by omega)).trans (List.getElem?_eq_getElem (by omega))⟩
    have s1 := hR4.stored 2 (.int .i64 t)
    have hR5 := s1.1
    rw [show (toksC L).set 2 (.int .i64 t) = toksC (L.modify 0 (fun y => ⟨y.n, y.h, t, y.t⟩)) from by simpa using (toksC_setR L 0 t (by omega)).symm] at hR5
    have hB5 := hB4.row s1.2 (by omega)
    have HF := Lib.hid (And.intro hR5 hB5.2.1)
    clear k1 k2 hR2 hB2 hB4 hR4 s1 hR5 hB5 hlen
    have hL0 : (0 : Int) < (L.length : Int) := by omega
    go_wp2_with fail
    go_ret
    exact ⟨⟨L.modify 0 (fun y => ⟨y.n, y.h, t, y.t⟩), some ⟨b, 0, none⟩, cB, by simp, by simp; omega, by simpa using HF.out.1⟩, HF.out.2⟩
  go_wp2_with fail
  go_ret
  exact ⟨⟨L, B, cB, rfl, by omega, hR2⟩, hB2.2.1⟩
end Go.Proofs.YtjgcanhaelabaaaDoor
