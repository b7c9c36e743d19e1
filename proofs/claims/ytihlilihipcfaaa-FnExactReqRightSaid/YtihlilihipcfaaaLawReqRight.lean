/-
  FnExactReqRight: at every request impl answers as spec, and below the old heap nothing has turned.
-/
import Derived.Test.YtihlilihipcfaaaOpenReq
import Derived.Test.YtihlilihipcfaaaReqRightS
import Derived.Test.YtihlilihipcfaaaReqRightJ
import Derived.Test.YtihlilihipcfaaaLift
namespace Go.Proofs.Ytihlilihipcfaaa
open Go.ChangeShapes Go.WideShapes Go.ChangeAt Go.RowKit Go.ChangeMaps
set_option linter.unusedSimpArgs false
set_option linter.unusedVariables false

set_option maxHeartbeats 2000000 in
theorem reqRight_walk (k t h l : Int) (n f : ByteArray) (r c o : Int) (w : World) (hn : n.size ≤ maxLen) (hf : f.size ≤ maxLen) :
    Calls Try.prog 4 #[reqV k t h l n f r c o] w fun e w' => Holds e w w' := by
  have HZ : Hid (∀ W : World, Calls Try.prog 8 #[reqV k t h l n f r c o, .int .i64 1048576] W fun e w' => e = .returned (.int .i64 (leftR 1048576 n.size f.size)) ∧ Below W.heap.size W w') := fun W => szReq_any k t h l n f r c o 1048576 W hn hf (by omega) (by omega)
  have HT : Hid (∀ W : World, Calls Try.prog 10 #[reqV k t h l n f r c o] W fun e w' => e = .returned (reqV k t h l n f r c o) ∧ Below W.heap.size W w') := fun W => toReq_any k t h l n f r c o W
  have HS : Hid (∀ W : World, Calls Try.prog 9 #[reqV k t h l n f r c o] W fun e w' => e = .returned (.bool (reqB ⟨k, t, h, l, n, f, r, c, o⟩)) ∧ Below W.heap.size W w') := fun W => sReqRight_any k t h l n f r c o W hn hf
  have HI : Hid (∀ W : World, Calls Try.prog 11 #[reqV k t h l n f r c o] W fun e w' => e = .returned (.bool (reqB ⟨k, t, h, l, n, f, r, c, o⟩)) ∧ Below W.heap.size W w') := fun W => iReqRight_any k t h l n f r c o W hn hf
  generalize reqB ⟨k, t, h, l, n, f, r, c, o⟩ = R at *
  clear hn hf
  by_cases hX : (1048576 : Int) < ((n.size + f.size : Nat) : Int)
  · rw [leftR, if_pos hX] at HZ
    go_enter Try.func4, Try.ntmps4
    go_wp2_with fail
    refine (HZ.out _).mono ?_
    rintro e w1 ⟨rfl, hb1⟩
    go_wp2_with fail
    go_ret
    exact ⟨rfl, boxR hb1⟩
  rw [leftR, if_neg hX] at HZ
  have hle : (0 : Int) ≤ 1048576 - ((n.size + f.size : Nat) : Int) := by omega
  generalize (1048576 : Int) - ((n.size + f.size : Nat) : Int) = z at *
  have hz0 : ¬ z < 0 := by omega
  clear hX
  go_enter Try.func4, Try.ntmps4
  go_wp2_with fail
  refine (HZ.out _).mono ?_
  rintro e w1 ⟨rfl, hb1⟩
  have hB1 := boxR hb1
  have X1 := (Block.new w #[.int .i64 k, .int .i64 t, .int .i64 h, .int .i64 l, .string n, .string f, .int .i64 r, .int .i64 c, .int .i64 o] 26).on hb1
  have x1 := X1.cell
  clear hb1
  go_wp2_with fail
  refine (HT.out _).mono ?_
  rintro e w2 ⟨rfl, hb2⟩
  have hB2 := hB1.trans (hb2.mono hB1.size)
  have X2 := X1.on hb2
  have x2 := X2.cell
  clear hb2 X1 x1 hB1
  go_wp2_with fail
  refine (HS.out _).mono ?_
  rintro e w3 ⟨rfl, hb3⟩
  have hB3 := hB2.trans (hb3.mono hB2.size)
  have X3 := X2.on hb3
  have x3 := X3.cell
  clear hb3 X2 x2 hB2
  go_wp2_with fail
  refine (HT.out _).mono ?_
  rintro e w4 ⟨rfl, hb4⟩
  have hB4 := hB3.trans (hb4.mono hB3.size)
  clear hb4 X3 x3 hB3
  go_wp2_with fail
  refine (HI.out _).mono ?_
  rintro e w5 ⟨rfl, hb5⟩
  have hB5 := hB4.trans (hb5.mono hB4.size)
  clear hb5 hB4
  go_wp2_with fail
  go_ret
  exact ⟨rfl, hB5⟩

set_option maxRecDepth 100000 in
theorem fnExactReqRight_lifted (os : Os) (started : os.Started) (H : Type) (enc : TypeId × Value → H) :
    ReturnsInHanded {} Try.checked os 4 .any (Rows.fnExactReqRightSpec.pre6 enc Try.prog Try.f4 Rows.fnExactReqRightRow.domain false) (Rows.fnExactReqRightSpec.post enc Try.prog Try.f4 false true false false) := by
  refine law_lifted started (by kernel_rfl) Try.func4 rfl rfl Try.underlying4 (by rw [Try.params4]; exact List.forall_mem_cons.2 ⟨⟨by kernel_rfl, of_decide_eq_true (by kernel_rfl)⟩, fun _ h => by cases h⟩) (fun ds hd => ?_)
    (ChangeSpec.witness6 (enc := enc) (C := Try.checked) false ⟨#[], #[.agg #[.int .i64 0, .int .i64 0, .int .i64 0, .int .i64 0, .string ⟨#[]⟩, .string ⟨#[]⟩, .int .i64 0, .int .i64 0, .int .i64 0]], []⟩ 8 (by kernel_rfl) (by kernel_rfl) (by kernel_rfl) (by kernel_rfl)) ?_
  · match ds, hd with
    | [_], _ => rfl
  · intro W base args ds p hval hA hlt _
    rw [Try.params4] at hA hval
    obtain ⟨v0, vs0, d0, ds0, p0, q0, hargs, rfl, rfl, h0, r0⟩ := trodAll_cons hA
    obtain ⟨rfl, rfl, rfl⟩ := trodAll_nil r0
    obtain rfl : args = #[v0] := by cases args; simp_all
    obtain ⟨a0k, a0t, a0h, a0l, a0n, a0f, a0r, a0c, a0o, rfl, u0, y0⟩ := open_req (hval 0 26 v0 rfl rfl) h0
    exact reqRight_walk a0k a0t a0h a0l a0n a0f a0r a0c a0o W u0 y0

theorem fnExactReqRight_holds : Rows.FnExactReqRightSaid :=
  OpenClaim.holds_of_wide 4 Try.f4 rfl rfl rfl rfl rfl rfl rfl ⟨rfl, rfl, rfl, rfl, rfl⟩ rfl rfl rfl rfl rfl (by kernel_rfl) Try.func4 (by kernel_rfl)
    (of_decide_eq_true (by kernel_rfl)) (by unfold Func.isWrapper; first | (rw [if_pos (by decide +kernel)]; kernel_rfl) | (rw [if_neg (by decide +kernel)]; exact ⟨rfl, rfl⟩))
    (fun os started H enc _ => fnExactReqRight_lifted os started H enc)
end Go.Proofs.Ytihlilihipcfaaa
