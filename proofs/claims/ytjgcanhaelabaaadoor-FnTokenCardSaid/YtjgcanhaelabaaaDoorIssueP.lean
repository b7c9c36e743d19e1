/-
  What impl.Issue calls: lastNo, slices.Clone.
-/
import Derived.Test.YtjgcanhaelabaaaDoorTokOut
namespace Go.Proofs.YtjgcanhaelabaaaDoor
open Go.ChangeShapes Go.WideShapes Go.ChangeAt Go.RowKit Go.ChangeMaps
set_option maxRecDepth 10000
set_option linter.unusedSimpArgs false
set_option linter.unusedVariables false

set_option maxHeartbeats 1000000 in
theorem lastNo_any (l : List TK) (A : Option Addr) (cap : Nat) (w : World) (hl : Lies w w.heap.size 4 A l.length (toksC l)) (hm : l.length ≤ 1099511627) :
    Calls Tryd.prog 33 #[.slice A l.length cap] w fun e w' => e = .returned (.int .i64 (lastN l)) ∧ w = w' := by
  by_cases h0 : l.length = 0
  · have hN : Hid (lastN l = 0) := if_pos h0
    obtain rfl : l = [] := List.eq_nil_of_length_eq_zero h0
    simp only [List.length_nil] at *
    clear hl hm h0
    go_enter Tryd.func33, Tryd.ntmps33
    go_wp2
    go_ret
    exact ⟨ret_int hN.out.symm, rfl⟩
  · obtain ⟨b, off, x, rfl, hb, hx, c0, -⟩ := hl.tok (show l.length - 1 < l.length by omega)
    have hN : Hid (lastN l = x.n) := by rw [Hid, lastN, if_neg h0, tAt_of hx]
    have h0' : ((l.length : Int) == 0) = false := beq_eq_false_iff_ne.2 (by omega)
    have hw1 : IntKind.i64.wrap ((l.length : Int) - 1) = (l.length : Int) - 1 := IntWalk.i64_in _ (by omega)
    have hw2 : (0 : Int) ≤ (l.length : Int) - 1 := by omega
    have hw3 : ((l.length : Int) - 1).toNat = l.length - 1 := by omega
    have hw4 : (l.length : Int) - 1 < (l.length : Int) := by omega
    clear hl hx
    go_enter Tryd.func33, Tryd.ntmps33
    go_wp2
    go_ret
    exact ⟨ret_int hN.out.symm, rfl⟩

set_option maxHeartbeats 1000000 in
theorem cloneT_any (l : List TK) (A : Option Addr) (cap : Nat) (w : World) (hl : Lies w w.heap.size 4 A l.length (toksC l)) (hm : l.length ≤ 1099511626) :
    Calls Tryd.prog 34 #[.slice A l.length cap] w fun e w' => (∃ (B : Option Addr) (c : Nat), e = .returned (.slice B l.length c) ∧ w'.ownsRow w.heap.size 39 4 (.slice B l.length c) l.length (toksC l)) ∧ Below w.heap.size w w' := by
  have hnil := fun (x : Option Addr) (n c : Nat) (W : World) => Lib.run_eql_slice_nil (P := Tryd.prog) W 24 39 x n c 0 0 Tryd.underlying24
  cases A with
  | none =>
    have h0 : l.length = 0 := by
      rcases Nat.eq_zero_or_pos l.length with h | h
      · exact h
      · obtain ⟨_, _, h, _⟩ := hl.2 h
        cases h
    obtain rfl : l = [] := List.eq_nil_of_length_eq_zero h0
    simp only [List.length_nil] at *
    clear hl hm h0
    go_enter Tryd.func34, Tryd.ntmps34
    go_wp2
    go_ret
    exact ⟨⟨none, 0, rfl, World.ownsRow_nil _ _ _ _⟩, Below.refl _ _⟩
  | some ad =>
    go_enter Tryd.func34, Tryd.ntmps34
    go_wp2_with (at_builtin; refine wpList_append_lies Tryd.underlying24 info_tok rfl (by decide) (by decide) w.heap.size _ 0 [] rfl (World.ownsRow_lit w #[] 0 (by omega) (by simp) rfl) w.heap.size _ _ _ _ rfl (hl.below ((Below.refl _ _).alloc (by omega) _)) (toksC_one _) (by omega) (by simp) ?_; intro v1 wa hown1 hg1)
    go_ret
    obtain ⟨B, c, rfl, -, -⟩ := own_form hown1
    exact ⟨⟨B, c, by simp, by simpa using hown1⟩, ((Below.refl _ w).alloc (Nat.le_refl _) _).grown hg1 (by simp) (fun k e => by have e1 := Option.some.inj e; simp at e1; omega)⟩
end Go.Proofs.YtjgcanhaelabaaaDoor
