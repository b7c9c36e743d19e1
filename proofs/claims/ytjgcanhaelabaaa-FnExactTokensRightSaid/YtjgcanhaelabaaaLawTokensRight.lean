/-
  FnExactTokensRight: the walk and the row: at every list of tokens impl answers as spec, and below the old heap nothing has turned.
-/
import Derived.Test.YtjgcanhaelabaaaOpenToks
import Derived.Test.YtjgcanhaelabaaaTokOkS
import Derived.Test.YtjgcanhaelabaaaLift
import Derived.Deep.RegionWith
namespace Go.Proofs.Ytjgcanhaelabaaa
open Go.ChangeShapes Go.WideShapes Go.ChangeAt Go.RowKit Go.ChangeMaps
set_option linter.unusedSimpArgs false
set_option linter.unusedVariables false

set_option maxHeartbeats 2000000 in
theorem tokensRight_walk (l : List TK) (A : Option Addr) (c : Nat) (w : World) (hm : l.length ≤ maxLen) (hl : Lies w w.heap.size 4 A l.length (toksC l)) :
    Calls Try.prog 3 #[.slice A l.length c] w fun e w' => Holds e w w' := by
  have HZ : Hid (∀ W : World, Calls Try.prog 7 #[.slice A l.length c, .int .i64 1048576] W fun e w' => e = .returned (.int .i64 (if (1048576 : Int) < l.length then -1 else 1048576 - l.length)) ∧ W = w') := fun W => szTokenS_any l A c 1048576 W hm (by omega) (by omega)
  by_cases hX : (1048576 : Int) < l.length
  · rw [if_pos hX] at HZ
    clear hl
    go_enter Try.func3, Try.ntmps3
    go_wp2_with fail
    refine (HZ.out _).mono ?_
    rintro e w1 ⟨rfl, rfl⟩
    go_wp2_with fail
    go_ret
    exact ⟨rfl, Below.refl _ _⟩
  rw [if_neg hX] at HZ
  have h1 : l.length ≤ 1099511627 := by omega
  have HT : Hid (∀ W : World, Below w.heap.size w W → Calls Try.prog 9 #[.slice A l.length c] W fun e w' => e = .returned (.slice (some ⟨W.heap.size, 0, none⟩) l.length l.length) ∧ w'.ownsRow W.heap.size 39 4 (.slice (some ⟨W.heap.size, 0, none⟩) l.length l.length) l.length (toksC l) ∧ Below W.heap.size W w') := fun W hW => toTokenS_any l A c W (hl.on hW) h1
  have HE : Hid (∀ (W : World) (A A' : Option Addr) (c c' : Nat), Lies W W.heap.size 4 A l.length (toksC l) → Lies W W.heap.size 4 A' l.length (toksC l) → Calls Try.prog 11 #[.slice A l.length c, .slice A' l.length c'] W fun e w' => e = .returned (.bool true) ∧ Below W.heap.size W w') := fun W A A' c c' ha hb => eqTokenS_same l A A' l.length c c' W rfl ha hb h1
  have HS : Hid (∀ (W : World) (A : Option Addr) (c : Nat), Lies W W.heap.size 4 A l.length (toksC l) → Calls Try.prog 8 #[.slice A l.length c] W fun e w' => e = .returned (.bool (toksOkB l)) ∧ Below W.heap.size W w') := fun W A c h => sTokensRight_any l A c W h h1
  have HI : Hid (∀ (W : World) (A : Option Addr) (c : Nat), Lies W W.heap.size 4 A l.length (toksC l) → Calls Try.prog 10 #[.slice A l.length c] W fun e w' => e = .returned (.bool (toksOkB l)) ∧ Below W.heap.size W w') := fun W A c h => iTokensRight_any l A c W h h1
  generalize toksOkB l = R at *
  clear hl hm
  go_enter Try.func3, Try.ntmps3
  go_wp2_with fail
  refine (HZ.out _).mono ?_
  rintro e w1 ⟨rfl, rfl⟩
  go_wp2_with fail
  refine (HT.out _ (by go_grown)).mono ?_
  rintro e w1 ⟨rfl, ho1, hb1⟩
  have hl1 := Lies.own ho1
  clear ho1
  go_wp2_with fail
  refine (HS.out _ _ _ hl1).mono ?_
  rintro e w2 ⟨rfl, hb2⟩
  have hB2 : Below w.heap.size w w2 := hb1.trans (hb2.mono hb1.size)
  clear hb1 hb2 hl1
  go_wp2_with fail
  refine (HT.out _ hB2).mono ?_
  rintro e w3 ⟨rfl, ho3, hb3⟩
  have hl3 := Lies.own ho3
  have hB3 := hB2.trans (hb3.mono hB2.size)
  clear ho3 hb3 hB2
  go_wp2_with fail
  refine (HI.out _ _ _ hl3).mono ?_
  rintro e w4 ⟨rfl, hb4⟩
  have hl4 := hl3.on hb4
  have hB4 := hB3.trans (hb4.mono hB3.size)
  clear hl3 hb4 hB3
  go_wp2_with fail
  refine (HT.out _ hB4).mono ?_
  rintro e w5 ⟨rfl, ho5, hb5⟩
  have hl5 := Lies.own ho5
  have hl45 := hl4.on hb5
  have hB5 := hB4.trans (hb5.mono hB4.size)
  clear ho5 hb5 hB4 hl4
  go_wp2_with fail
  refine (HE.out _ _ _ _ _ hl45 hl5).mono ?_
  rintro e w6 ⟨rfl, hb6⟩
  go_wp2_with fail
  go_ret
  exact ⟨rfl, hB5.trans (hb6.mono hB5.size)⟩

set_option maxRecDepth 100000 in
theorem fnExactTokensRight_lifted (os : Os) (started : os.Started) (H : Type) (enc : TypeId × Value → H) :
    ReturnsInHanded {} Try.checked os 3 .any (Rows.fnExactTokensRightSpec.pre6 enc Try.prog Try.f3 Rows.fnExactTokensRightRow.domain false) (Rows.fnExactTokensRightSpec.post enc Try.prog Try.f3 false true false false) := by
  refine law_lifted started (by kernel_rfl) Try.func3 rfl rfl Try.underlying4 (by rw [Try.params3]; exact List.forall_mem_cons.2 ⟨⟨by kernel_rfl, of_decide_eq_true (by kernel_rfl)⟩, fun _ h => by cases h⟩) (fun ds hd => ?_)
    (ChangeSpec.witness6 (enc := enc) (C := Try.checked) false ⟨#[], #[.slice none 0 0], []⟩ 8 (by kernel_rfl) (by kernel_rfl) (by kernel_rfl) (by kernel_rfl)) ?_
  · match ds, hd with
    | [_], _ => rfl
  · intro W base args ds p hval hA hlt _
    rw [Try.params3] at hA hval
    obtain ⟨v0, vs0, d0, ds0, p0, q0, hargs, rfl, rfl, h0, r0⟩ := trodAll_cons hA
    obtain ⟨rfl, rfl, rfl⟩ := trodAll_nil r0
    obtain rfl : args = #[v0] := by cases args; simp_all
    obtain ⟨a0l, a0a, a0c, rfl, m0, l0⟩ := open_toks_arg (hval 0 22 v0 rfl rfl) h0
    exact tokensRight_walk a0l a0a a0c W m0 l0

theorem fnExactTokensRight_holds : Rows.FnExactTokensRightSaid :=
  OpenClaim.holds_of_wide 3 Try.f3 rfl rfl rfl rfl rfl rfl rfl ⟨rfl, rfl, rfl, rfl, rfl⟩ rfl rfl rfl rfl rfl (by kernel_rfl) Try.func3 (by kernel_rfl)
    (of_decide_eq_true (by kernel_rfl)) (by unfold Func.isWrapper; first | (rw [if_pos (by decide +kernel)]; kernel_rfl) | (rw [if_neg (by decide +kernel)]; exact ⟨rfl, rfl⟩))
    (fun os started H enc _ => fnExactTokensRight_lifted os started H enc)
end Go.Proofs.Ytjgcanhaelabaaa
