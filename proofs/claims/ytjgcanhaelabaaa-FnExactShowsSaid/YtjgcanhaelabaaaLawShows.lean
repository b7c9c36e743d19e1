/-
  FnExactShows: the walk and the row: at every list of tokens, number and time impl answers as spec, and below the old heap nothing has turned.
-/
import Derived.Test.YtjgcanhaelabaaaOpenToks
import Derived.Test.YtjgcanhaelabaaaShows
import Derived.Test.YtjgcanhaelabaaaLift
namespace Go.Proofs.Ytjgcanhaelabaaa
open Go.ChangeShapes Go.WideShapes Go.ChangeAt Go.RowKit Go.ChangeMaps
set_option linter.unusedSimpArgs false
set_option linter.unusedVariables false

set_option maxHeartbeats 2000000 in
theorem shows_walk (l : List TK) (A : Option Addr) (c : Nat) (no now : Int) (w : World) (hm : l.length ≤ maxLen) (hl : Lies w w.heap.size 4 A l.length (toksC l)) (hw : (Lit.int .i64 no).wf = true) (hw2 : (Lit.int .i64 now).wf = true) :
    Calls Try.prog 6 #[.slice A l.length c, .int .i64 no, .int .i64 now] w fun e w' => Holds e w w' := by
  have HZ : Hid (∀ W : World, Calls Try.prog 7 #[.slice A l.length c, .int .i64 1048576] W fun e w' => e = .returned (.int .i64 (if (1048576 : Int) < l.length then -1 else 1048576 - l.length)) ∧ W = w') := fun W => szTokenS_any l A c 1048576 W hm (by omega) (by omega)
  by_cases hX : (1048576 : Int) < l.length
  · rw [if_pos hX] at HZ
    clear hl
    go_enter Try.func6, Try.ntmps6
    go_wp2_with fail
    refine (HZ.out _).mono ?_
    rintro e w1 ⟨rfl, rfl⟩
    go_wp2_with fail
    go_ret
    exact ⟨rfl, Below.refl _ _⟩
  rw [if_neg hX] at HZ
  have h1 : l.length ≤ 1099511627 := by omega
  have HT : Hid (∀ W : World, Below w.heap.size w W → Calls Try.prog 9 #[.slice A l.length c] W fun e w' => (∃ A', e = .returned (.slice A' l.length l.length) ∧ Lies w' w'.heap.size 4 A' l.length (toksC l)) ∧ Below W.heap.size W w') := fun W hW => (toTokenS_any l A c W (hl.on hW) h1).mono fun e w' ⟨h1, h2, h3⟩ => ⟨⟨_, h1, Lies.own h2⟩, h3⟩
  have HE : Hid (∀ (W : World) (A A' : Option Addr) (c c' : Nat), Lies W W.heap.size 4 A l.length (toksC l) → Lies W W.heap.size 4 A' l.length (toksC l) → Calls Try.prog 11 #[.slice A l.length c, .slice A' l.length c'] W fun e w' => e = .returned (.bool true) ∧ Below W.heap.size W w') := fun W A A' c c' ha hb => eqTokenS_same l A A' l.length c c' W rfl ha hb h1
  have HS : Hid (∀ (W : World) (A : Option Addr) (c : Nat), Lies W W.heap.size 4 A l.length (toksC l) → Calls Try.prog 20 #[.slice A l.length c, .int .i64 no, .int .i64 now] W fun e w' => e = .returned (tkV (showT l no now)) ∧ Below W.heap.size W w') := fun W A c h => sShows_any l A c no now W h h1
  have HI : Hid (∀ (W : World) (A : Option Addr) (c : Nat), Lies W W.heap.size 4 A l.length (toksC l) → Calls Try.prog 21 #[.slice A l.length c, .int .i64 no, .int .i64 now] W fun e w' => e = .returned (tkV (showT l no now)) ∧ Below W.heap.size W w') := fun W A c h => iShows_any l A c no now W h h1 hw
  have HQ : Hid (∀ (n h r t : Int) (W : World), Calls Try.prog 22 #[tokV n h r t, tokV n h r t] W fun e w' => e = .returned (.bool true) ∧ Below W.heap.size W w') := fun n h r t W => eqToken_same n h r t W
  generalize showT l no now = R at *
  obtain ⟨rn, rh, rr, rt⟩ := R
  dsimp only [tkV] at *
  clear hl hm hw hw2
  go_enter Try.func6, Try.ntmps6
  go_wp2_with fail
  refine (HZ.out _).mono ?_
  rintro e w1 ⟨rfl, rfl⟩
  go_wp2_with fail
  refine (HT.out _ (by go_grown)).mono ?_
  rintro e w1 ⟨⟨A1, rfl, hl1⟩, hb1⟩
  go_wp2_with fail
  refine (HS.out _ _ _ hl1).mono ?_
  rintro e w2 ⟨rfl, hb2⟩
  have hB2 : Below w.heap.size w w2 := hb1.trans (hb2.mono hb1.size)
  have hz2 := hB2.size
  clear hb1 hb2 hl1
  go_wp2_with fail
  refine (HT.out _ (by go_grown)).mono ?_
  rintro e w3 ⟨⟨A3, rfl, hl3⟩, hb3⟩
  have X3 := (Block.new w2 #[.int .i64 rn, .int .i64 rh, .int .i64 rr, .int .i64 rt] 39).on hb3
  have hB3 := (hB2.alloc hB2.size _).trans (hb3.mono (hB2.alloc hB2.size _).size)
  clear hb3 hB2
  go_wp2_with fail
  refine (HI.out _ _ _ hl3).mono ?_
  rintro e w4 ⟨rfl, hb4⟩
  have hl4 := hl3.on hb4
  have X4 := X3.on hb4
  have hB4 := hB3.trans (hb4.mono hB3.size)
  have q4 := X4.cell
  have hlt4 := X4.lt
  have hne4 := Nat.ne_of_lt hlt4
  clear hl3 hb4 hB3 X3
  go_wp2_with fail
  refine (HQ.out _ _ _ _ _).mono ?_
  rintro e w5 ⟨rfl, hb5⟩
  have hz4 := hB4.size
  have hB4' := hB4.alloc hz4 (.cells #[.int .i64 rn, .int .i64 rh, .int .i64 rr, .int .i64 rt] 39)
  have hl5 := (hl4.alloc _).on hb5
  have hB5 := hB4'.trans (hb5.mono hB4'.size)
  clear hb5 hB4 hB4' hl4 X4 q4 hlt4 hne4 hz4
  go_wp2_with fail
  refine (HT.out _ hB5).mono ?_
  rintro e w6 ⟨⟨A6, rfl, hl6⟩, hb6⟩
  have hl56 := hl5.on hb6
  have hB6 := hB5.trans (hb6.mono hB5.size)
  clear hb6 hB5 hl5
  go_wp2_with fail
  refine (HE.out _ _ _ _ _ hl56 hl6).mono ?_
  rintro e w7 ⟨rfl, hb7⟩
  go_wp2_with fail
  go_ret
  exact ⟨rfl, hB6.trans (hb7.mono hB6.size)⟩

set_option maxRecDepth 100000 in
theorem fnExactShows_lifted (os : Os) (started : os.Started) (H : Type) (enc : TypeId × Value → H) :
    ReturnsInHanded {} Try.checked os 6 .any (Rows.fnExactShowsSpec.pre6 enc Try.prog Try.f6 Rows.fnExactShowsRow.domain false) (Rows.fnExactShowsSpec.post enc Try.prog Try.f6 false true false false) := by
  refine law_lifted started (by kernel_rfl) Try.func6 rfl rfl Try.underlying4 (by rw [Try.params6]; exact List.forall_mem_cons.2 ⟨⟨by kernel_rfl, of_decide_eq_true (by kernel_rfl)⟩, List.forall_mem_cons.2 ⟨⟨by kernel_rfl, of_decide_eq_true (by kernel_rfl)⟩, List.forall_mem_cons.2 ⟨⟨by kernel_rfl, of_decide_eq_true (by kernel_rfl)⟩, fun _ h => by cases h⟩⟩⟩) (fun ds hd => ?_)
    (ChangeSpec.witness6 (enc := enc) (C := Try.checked) false ⟨#[], #[.slice none 0 0, .int .i64 0, .int .i64 0], []⟩ 8 (by kernel_rfl) (by kernel_rfl) (by kernel_rfl) (by kernel_rfl)) ?_
  · match ds, hd with
    | [_, _, _], _ => rfl
  · intro W base args ds p hval hA hlt _
    rw [Try.params6] at hA hval
    obtain ⟨v0, vs0, d0, ds0, p0, q0, hargs, rfl, rfl, h0, r0⟩ := trodAll_cons hA
    obtain ⟨v1, vs1, d1, ds1, p1, q1, rfl, rfl, rfl, h1, r1⟩ := trodAll_cons r0
    obtain ⟨v2, vs2, d2, ds2, p2, q2, rfl, rfl, rfl, h2, r2⟩ := trodAll_cons r1
    obtain ⟨rfl, rfl, rfl⟩ := trodAll_nil r2
    obtain rfl : args = #[v0, v1, v2] := by cases args; simp_all
    obtain ⟨a0l, a0a, a0c, rfl, m0, l0⟩ := open_toks_arg (hval 0 22 v0 rfl rfl) h0
    obtain ⟨a1, rfl, rfl, rfl, w1⟩ := open_int Try.underlying2 (hval 1 2 v1 rfl rfl) h1
    obtain ⟨a2, rfl, rfl, rfl, w2⟩ := open_int Try.underlying2 (hval 2 2 v2 rfl rfl) h2
    exact shows_walk a0l a0a a0c a1 a2 W m0 l0 w1 w2

theorem fnExactShows_holds : Rows.FnExactShowsSaid :=
  OpenClaim.holds_of_wide 6 Try.f6 rfl rfl rfl rfl rfl rfl rfl ⟨rfl, rfl, rfl, rfl, rfl⟩ rfl rfl rfl rfl rfl (by kernel_rfl) Try.func6 (by kernel_rfl)
    (of_decide_eq_true (by kernel_rfl)) (by unfold Func.isWrapper; first | (rw [if_pos (by decide +kernel)]; kernel_rfl) | (rw [if_neg (by decide +kernel)]; exact ⟨rfl, rfl⟩))
    (fun os started H enc _ => fnExactShows_lifted os started H enc)
end Go.Proofs.Ytjgcanhaelabaaa
