/-
  FnExactRevoke: the walk and the row: at every input impl answers as spec, in memory of its own, and below the old heap nothing has turned.
-/
import Derived.Test.YtjgcanhaelabaaaOutLaw
import Derived.Test.YtjgcanhaelabaaaRevokeS
import Derived.Test.YtjgcanhaelabaaaRevokeI
namespace Go.Proofs.Ytjgcanhaelabaaa
open Go.ChangeShapes Go.WideShapes Go.ChangeAt Go.RowKit Go.ChangeMaps
set_option linter.unusedSimpArgs false
set_option linter.unusedVariables false

set_option maxHeartbeats 4000000 in
theorem revoke_walk (l : List TK) (A : Option Addr) (c : Nat) (no1 : Int) (w : World) (hm : l.length ≤ maxLen) (hl : Lies w w.heap.size 4 A l.length (toksC l)) (hw : (Lit.int .i64 no1).wf = true) :
    Calls Try.prog 5 #[.slice A l.length c, .int .i64 no1] w fun e w' => Holds e w w' := by
  have HZ : Hid (∀ W : World, Calls Try.prog 7 #[.slice A l.length c, .int .i64 1048576] W fun e w' => e = .returned (.int .i64 (if (1048576 : Int) < l.length then -1 else 1048576 - l.length)) ∧ W = w') := fun W => szTokenS_any l A c 1048576 W hm (by omega) (by omega)
  by_cases hX : (1048576 : Int) < l.length
  · rw [if_pos hX] at HZ
    clear hl
    go_enter Try.func5, Try.ntmps5
    go_wp2_with fail
    refine (HZ.out _).mono ?_
    rintro e w1 ⟨rfl, rfl⟩
    go_wp2_with fail
    go_ret
    exact ⟨rfl, Below.refl _ _⟩
  rw [if_neg hX] at HZ
  have h1 : l.length ≤ 1099511626 := by omega
  have HT : Hid (∀ W : World, Below w.heap.size w W → Calls Try.prog 9 #[.slice A l.length c] W fun e w' => (∃ A', e = .returned (.slice A' l.length l.length) ∧ w'.ownsRow W.heap.size 39 4 (.slice A' l.length l.length) l.length (toksC l)) ∧ Below W.heap.size W w') := fun W hW => (toTokenS_any l A c W (hl.on hW) (by omega)).mono fun e w' ⟨h1, h2, h3⟩ => ⟨⟨_, h1, h2⟩, h3⟩
  have HE : Hid (∀ (W : World) (A A' : Option Addr) (c c' : Nat), Lies W W.heap.size 4 A l.length (toksC l) → Lies W W.heap.size 4 A' l.length (toksC l) → Calls Try.prog 11 #[.slice A l.length c, .slice A' l.length c'] W fun e w' => e = .returned (.bool true) ∧ Below W.heap.size W w') := fun W A A' c c' ha hb => eqTokenS_same l A A' l.length c c' W rfl ha hb (by omega)
  have HS : Hid (∀ (W : World) (A : Option Addr) (c : Nat), Lies W W.heap.size 4 A l.length (toksC l) → Calls Try.prog 18 #[.slice A l.length c, .int .i64 no1] W (ToksMade (revokeT l no1) W)) := fun W A c h => sRevoke_any l A c no1 W h (by omega)
  have HI : Hid (∀ (W : World) (A : Option Addr) (c : Nat), Lies W W.heap.size 4 A l.length (toksC l) → Calls Try.prog 19 #[.slice A l.length c, .int .i64 no1] W (ToksMade (revokeT l no1) W)) := fun W A c h => iRevoke_any l A c no1 W h h1 hw
  have HM1 : Hid (∀ (W : World) (base : Nat) (A : Option Addr) (c : Nat) (xs : List Value), W.ownsRow base 39 4 (.slice A l.length c) l.length xs → base ≤ W.heap.size → Calls Try.prog 15 #[.slice A l.length c, .int .i64 1] W fun e w' => e = .returned (.int .i64 ((1 + 4 * l.length : Nat) : Int)) ∧ w'.ownsRow base 39 4 (.slice A l.length c) l.length (toksC (marksT 1 l.length)) ∧ W.grownBy w' (Value.slice A l.length c).ownBlock) := fun W base A c xs h hb => markTokenS_any base 1 l.length c A xs W h hb (by omega) (by omega) (by omega)
  have hPl : (revokeT l no1).1.length ≤ 1099511627 := revoke_len l no1
  clear hl
  generalize revokeT l no1 = P at *
  obtain ⟨L, no, code⟩ := P
  dsimp only [ToksMade] at *
  have HQ : Hid (∀ (W : World) (A B : Option Addr) (c d : Nat), Lies W W.heap.size 4 A L.length (toksC L) → Lies W W.heap.size 4 B L.length (toksC L) → Calls Try.prog 14 #[outV A L.length c no code, outV B L.length d no code] W fun e w' => e = .returned (.bool true) ∧ Below W.heap.size W w') := fun W A B c d h1 h2 => eqTokensOut_same L A B c d no code W h1 h2 hPl
  have HMO : Hid (∀ (W : World) (base : Nat) (A : Option Addr) (c : Nat) (xs : List Value), W.ownsRow base 39 4 (.slice A L.length c) L.length xs → base ≤ W.heap.size → Calls Try.prog 16 #[outV A L.length c no code, .int .i64 1] W fun e w' => e = .returned (.int .i64 ((1 + 4 * L.length : Nat) : Int)) ∧ w'.ownsRow base 39 4 (.slice A L.length c) L.length (toksC (marksT 1 L.length)) ∧ W.grownBy w' (Value.slice A L.length c).ownBlock) := fun W base A c xs h hb => markTokensOut_any base L.length c A xs no code W h hb hPl
  have HHO : Hid (∀ (W : World) (A : Option Addr) (c : Nat), Lies W W.heap.size 4 A L.length (toksC (marksT 1 L.length)) → Calls Try.prog 17 #[outV A L.length c no code, .int .i64 1] W fun e w' => e = .returned (.int .i64 ((1 + 4 * L.length : Nat) : Int)) ∧ Below W.heap.size W w') := fun W A c h => heldTokensOut_any L.length c A no code W h hPl
  have hp1 : ¬ (((1 + 4 * l.length : Nat) : Int) < 0) := by omega
  have hp2 : ¬ (((1 + 4 * L.length : Nat) : Int) < 0) := by omega
  generalize ((1 + 4 * l.length : Nat) : Int) = M1 at *
  generalize ((1 + 4 * L.length : Nat) : Int) = M2 at *
  go_enter Try.func5, Try.ntmps5
  go_wp2_with fail
  refine (HZ.out _).mono ?_
  rintro e w1 ⟨rfl, rfl⟩
  go_wp2_with fail
  refine (HT.out _ (by go_grown)).mono ?_
  rintro e w1 ⟨⟨A1, rfl, k1⟩, hb1⟩
  have l1 := Lies.own k1
  clear k1
  go_wp2_with fail
  refine (HS.out _ _ _ l1).mono ?_
  rintro e w2 ⟨A10, c10, rfl, r10, hb2⟩
  have S2 := StW.make (no := no) (code := code) (hb1.trans (hb2.mono hb1.size)) (ownsRow_base r10 (Nat.le_succ_of_le hb1.size))
  have HZ2 : Hid ((w2.alloc (.cells #[.slice A10 L.length c10, .int .i64 no, .int .i64 code] 30)).heap.size = w2.heap.size + 1) := by simp [Hid]
  clear l1 r10 hb1 hb2
  go_wp2_with fail
  refine (HT.out _ S2.1).mono ?_
  rintro e w3 ⟨⟨A11, rfl, r11⟩, hb3⟩
  rw [HZ2.out] at r11
  have S3 := S2.on hb3
  clear S2 hb3 HZ2
  go_wp2_with fail
  refine (HI.out _ _ _ (Lies.own r11)).mono ?_
  rintro e w4 ⟨A12, c12, rfl, r12, hb4⟩
  have S4 := (S3.on hb4).alloc (.cells #[.slice A12 L.length c12, .int .i64 no, .int .i64 code] 30)
  have G4 := StG.make (no := no) (code := code) (ownsRow_base r12 (Nat.le_succ _)) hb4.size
  have r11a := (ownsRow_below r11 hb4).alloc (.cells #[.slice A12 L.length c12, .int .i64 no, .int .i64 code] 30)
  have H12 : Hid (w2.heap.size < w3.heap.size) := S3.2.1.lt
  have H11 : Hid (∀ g, (Value.slice A11 l.length l.length).ownBlock = some g → w2.heap.size < g ∧ g < w3.heap.size) := fun g hg => r11.lt g hg
  have x4 := S4.2.1.cell
  have y4 := G4.1.cell
  have n4 := Nat.ne_of_lt (show w2.heap.size < w4.heap.size from Nat.lt_of_lt_of_le S3.2.1.lt hb4.size)
  clear S3 r11 r12 hb4
  go_wp2_with fail
  refine (HQ.out _ _ _ _ _ (Lies.own G4.2.1) (Lies.own S4.2.2.1)).mono ?_
  rintro e w5 ⟨rfl, hb5⟩
  have S5 := S4.on hb5
  have G5 := G4.on hb5
  have r11b := ownsRow_below r11a hb5
  clear S4 G4 r11a hb5 x4 y4 n4
  go_wp2_with fail
  refine (HT.out _ S5.1).mono ?_
  rintro e w6 ⟨⟨A6, rfl, k6⟩, hb6⟩
  have S6 := S5.on hb6
  have G6 := G5.on hb6
  have r11c := ownsRow_below r11b hb6
  clear S5 G5 r11b hb6
  go_wp2_with fail
  refine (HE.out _ _ _ _ _ (Lies.own r11c) (Lies.own k6)).mono ?_
  rintro e w7 ⟨rfl, hb7⟩
  have S7 := S6.on hb7
  have G7 := G6.on hb7
  have r11d := ownsRow_below r11c hb7
  clear S6 G6 r11c k6 hb7
  have hz7 : w2.heap.size + 1 ≤ w7.heap.size := S7.2.1.lt
  go_wp2_with fail
  refine (HM1.out _ _ _ _ _ r11d hz7).mono ?_
  rintro e w8 ⟨rfl, -, hg8⟩
  have S8 := S7.grown hg8 (fun g e => (H11.out g e).1)
  have G8 := G7.grown hg8 (fun g e => (H11.out g e).2)
  have x8 := S8.2.1.cell
  have y8 := G8.1.cell
  clear S7 G7 r11d hg8 hz7
  go_wp2_with fail
  refine (HQ.out _ _ _ _ _ (Lies.own G8.2.1) (Lies.own S8.2.2.1)).mono ?_
  rintro e w9 ⟨rfl, hb9⟩
  have S9 := S8.on hb9
  have G9 := G8.on hb9
  have y9 := G9.1.cell
  clear S8 G8 hb9 x8 y8
  go_wp2_with fail
  refine (HMO.out _ _ _ _ _ G9.2.1 G9.2.2.2.1).mono ?_
  rintro e w10 ⟨rfl, rA, hg10⟩
  have S10 := S9.grown hg10 (fun g e => by have := (G9.2.1.lt g e).1; have := H12.out; omega)
  have G10 := G9.marked hg10 rA
  have y10 := G10.1.cell
  clear S9 G9 rA hg10 y9
  go_wp2_with fail
  refine (HHO.out _ _ _ (Lies.own G10.2.1)).mono ?_
  rintro e w11 ⟨rfl, hb11⟩
  have S11 := S10.on hb11
  have G11 := G10.on hb11
  clear S10 G10 hb11 y10
  go_wp2_with fail
  refine (HT.out _ S11.1).mono ?_
  rintro e w12 ⟨⟨A15, rfl, k12⟩, hb12⟩
  have S12 := S11.on hb12
  have G12 := G11.on hb12
  clear S11 G11 hb12
  go_wp2_with fail
  refine (HI.out _ _ _ (Lies.own k12)).mono ?_
  rintro e w13 ⟨A16, c16, rfl, r16, hb13⟩
  have n13 := Nat.ne_of_lt (show w2.heap.size < w13.heap.size from Nat.lt_of_lt_of_le S12.2.1.lt hb13.size)
  have m13 := Nat.ne_of_lt (show w4.heap.size < w13.heap.size from Nat.lt_of_lt_of_le G12.1.lt hb13.size)
  have S13 := (S12.on hb13).alloc (.cells #[.slice A16 L.length c16, .int .i64 no, .int .i64 code] 30)
  have G13 := (G12.on hb13).alloc (.cells #[.slice A16 L.length c16, .int .i64 no, .int .i64 code] 30)
  have r16a := r16.alloc (.cells #[.slice A16 L.length c16, .int .i64 no, .int .i64 code] 30)
  have x13 := S13.2.1.cell
  have z13 := (Block.new w13 #[.slice A16 L.length c16, .int .i64 no, .int .i64 code] 30).cell
  clear S12 G12 hb13 k12 r16
  go_wp2_with fail
  refine (HQ.out _ _ _ _ _ (Lies.own r16a) (Lies.own S13.2.2.1)).mono ?_
  rintro e w14 ⟨rfl, hb14⟩
  have S14 := S13.on hb14
  have G14 := G13.on hb14
  have y14 := G14.1.cell
  clear S13 G13 hb14 r16a x13 z13 n13 m13
  go_wp2_with fail
  refine (HHO.out _ _ _ (Lies.own G14.2.1)).mono ?_
  rintro e w15 ⟨rfl, hb15⟩
  have S15 := S14.on hb15
  clear S14 G14 hb15 y14
  go_wp2_with fail
  go_ret
  exact ⟨rfl, S15.1⟩


set_option maxRecDepth 100000 in
theorem fnExactRevoke_lifted (os : Os) (started : os.Started) (H : Type) (enc : TypeId × Value → H) :
    ReturnsInHanded {} Try.checked os 5 .any (Rows.fnExactRevokeSpec.pre6 enc Try.prog Try.f5 Rows.fnExactRevokeRow.domain false) (Rows.fnExactRevokeSpec.post enc Try.prog Try.f5 false true false false) := by
  refine law_lifted started (by kernel_rfl) Try.func5 rfl rfl Try.underlying4 (by rw [Try.params5]; exact List.forall_mem_cons.2 ⟨⟨by kernel_rfl, of_decide_eq_true (by kernel_rfl)⟩, List.forall_mem_cons.2 ⟨⟨by kernel_rfl, of_decide_eq_true (by kernel_rfl)⟩, fun _ h => by cases h⟩⟩) (fun ds hd => ?_)
    (ChangeSpec.witness6 (enc := enc) (C := Try.checked) false ⟨#[], #[.slice none 0 0, .int .i64 0], []⟩ 8 (by kernel_rfl) (by kernel_rfl) (by kernel_rfl) (by kernel_rfl)) ?_
  · match ds, hd with
    | [_, _], _ => rfl
  · intro W base args ds p hval hA hlt _
    rw [Try.params5] at hA hval
    obtain ⟨v0, vs0, d0, ds0, p0, q0, hargs, rfl, rfl, h0, r0⟩ := trodAll_cons hA
    obtain ⟨v1, vs1, d1, ds1, p1, q1, rfl, rfl, rfl, h1, r1⟩ := trodAll_cons r0
    obtain ⟨rfl, rfl, rfl⟩ := trodAll_nil r1
    obtain rfl : args = #[v0, v1] := by cases args; simp_all
    obtain ⟨a0l, a0a, a0c, rfl, m0, l0⟩ := open_toks_arg (hval 0 22 v0 rfl rfl) h0
    obtain ⟨a1, rfl, rfl, rfl, w1⟩ := open_int Try.underlying2 (hval 1 2 v1 rfl rfl) h1
    exact revoke_walk a0l a0a a0c a1 W m0 l0 w1

theorem fnExactRevoke_holds : Rows.FnExactRevokeSaid :=
  OpenClaim.holds_of_wide 5 Try.f5 rfl rfl rfl rfl rfl rfl rfl ⟨rfl, rfl, rfl, rfl, rfl⟩ rfl rfl rfl rfl rfl (by kernel_rfl) Try.func5 (by kernel_rfl)
    (of_decide_eq_true (by kernel_rfl)) (by unfold Func.isWrapper; first | (rw [if_pos (by decide +kernel)]; kernel_rfl) | (rw [if_neg (by decide +kernel)]; exact ⟨rfl, rfl⟩))
    (fun os started H enc _ => fnExactRevoke_lifted os started H enc)
end Go.Proofs.Ytjgcanhaelabaaa
