/-
  FnExactSeatAt: the walk and the row: at every flight and number impl answers as spec, and below the old heap nothing has turned.
-/
import Derived.Test.YtjejdfmeclbjeaaSeatAtS
import Derived.Test.YtjejdfmeclbjeaaRegFS
import Derived.Test.YtjejdfmeclbjeaaOpenFS
import Derived.Test.YtjejdfmeclbjeaaLift
namespace Go.Proofs.Ytjejdfmeclbjeaa
open Go.ChangeShapes Go.WideShapes Go.ChangeAt Go.RowKit Go.ChangeMaps
set_option linter.unusedSimpArgs false
set_option linter.unusedVariables false

set_option maxHeartbeats 400000 in
theorem eqSeat_same (r c : Int) (w : World) : Calls Try.prog 30 #[seatV r c, seatV r c] w fun e w' => e = .returned (.bool true) ∧ Below w.heap.size w w' := by
  go_enter Try.func30, Try.ntmps30
  go_wp2
  go_ret
  exact ⟨rfl, by go_grown⟩
set_option maxHeartbeats 400000 in
theorem eqSeatOut_same (r c k : Int) (w : World) : Calls Try.prog 24 #[.agg #[.int .i64 r, .int .i64 c, .int .i64 k], .agg #[.int .i64 r, .int .i64 c, .int .i64 k]] w fun e w' => e = .returned (.bool true) ∧ Below w.heap.size w w' := by
  have HS : Hid (∀ W : World, Calls Try.prog 30 #[seatV r c, seatV r c] W fun e w' => e = .returned (.bool true) ∧ Below W.heap.size W w') := fun W => eqSeat_same r c W
  go_enter Try.func24, Try.ntmps24
  go_wp2_with fail
  refine (HS.out _).mono ?_
  rintro e w1 ⟨rfl, hb1⟩
  have d2 := kc hb1 (b := w.heap.size) (i := 2) (v := .int .i64 k) (by go_simp) (by simp; omega)
  have e2 := kc hb1 (b := w.heap.size + 1) (i := 2) (v := .int .i64 k) (by go_simp) (by simp)
  go_wp2_with fail
  go_ret
  exact ⟨rfl, ((Below.refl _ _).alloc (Nat.le_refl _) _ |>.alloc (by simp) _).trans (hb1.mono (by simp; omega))⟩

set_option maxHeartbeats 1000000 in
theorem seatAt_walk (s : ByteArray) (fr fc n : Int) (w : World) (hs : s.size ≤ maxLen) (hn : (Lit.int .i64 n).wf = true) : Calls Try.prog 8 #[flightV s fr fc, .int .i64 n] w fun e w' => Holds e w w' := by
  obtain ⟨n1, n2⟩ := wf_i64 hn
  clear hn
  have HS : Hid (∀ W : World, Calls Try.prog 22 #[flightV s fr fc, .int .i64 n] W fun e w' => e = .returned (seatOutV (seatAtT s fr fc n)) ∧ Below W.heap.size W w') := fun W => sSeatAt_any s fr fc n W hs n1 n2
  have HI : Hid (∀ W : World, Calls Try.prog 23 #[flightV s fr fc, .int .i64 n] W fun e w' => e = .returned (seatOutV (seatAtT s fr fc n)) ∧ Below W.heap.size W w') := fun W => iSeatAt_any s fr fc n W hs n1 n2
  generalize seatAtT s fr fc n = x at *
  obtain ⟨x, y, z⟩ := x
  have HZ : Hid (∀ W : World, Calls Try.prog 11 #[flightV s fr fc, .int .i64 1048576] W fun e w' => e = .returned (.int .i64 (if (1048576 : Int) < s.size then -1 else 1048576 - s.size)) ∧ Below W.heap.size W w') := fun W => szFlight_any s fr fc 1048576 W hs (by omega) (by omega)
  have HTF : Hid (∀ W : World, Calls Try.prog 13 #[flightV s fr fc] W fun e w' => e = .returned (flightV s fr fc) ∧ Below W.heap.size W w') := fun W => toFlight_any s fr fc W
  have HE : Hid (∀ W : World, Calls Try.prog 24 #[.agg #[.int .i64 x, .int .i64 y, .int .i64 z], .agg #[.int .i64 x, .int .i64 y, .int .i64 z]] W fun e w' => e = .returned (.bool true) ∧ Below W.heap.size W w') := fun W => eqSeatOut_same x y z W
  unfold maxLen at hs
  by_cases hbig : (1048576 : Int) < s.size
  · rw [if_pos hbig] at HZ
    go_enter Try.func8, Try.ntmps8
    go_wp2_with fail
    refine (HZ.out _).mono ?_
    rintro e w1 ⟨rfl, hb1⟩
    go_wp2_with fail
    go_ret
    exact ⟨rfl, ((Below.refl _ _).alloc (Nat.le_refl _) _).trans (hb1.mono (by simp))⟩
  rw [if_neg hbig] at HZ
  go_enter Try.func8, Try.ntmps8
  go_wp2_with fail
  refine (HZ.out _).mono ?_
  rintro e w1 ⟨rfl, hb1⟩
  have hB : Below w.heap.size w w1 := ((Below.refl _ _).alloc (Nat.le_refl _) _).trans (hb1.mono (by simp))
  have hz : w.heap.size + 1 ≤ w1.heap.size := by have := hb1.size; simpa using this
  have c00 := kc hb1 (b := w.heap.size) (i := 0) (v := .string s) (by go_simp) (by simp)
  have c01 := kc hb1 (b := w.heap.size) (i := 1) (v := .int .i64 fr) (by go_simp) (by simp)
  have c02 := kc hb1 (b := w.heap.size) (i := 2) (v := .int .i64 fc) (by go_simp) (by simp)
  clear hb1
  go_wp2_with fail
  refine (HTF.out _).mono ?_
  rintro e w2 ⟨rfl, hb2⟩
  replace hB := hB.trans (hb2.mono (by omega))
  replace c00 := kc hb2 c00 (by omega)
  replace c01 := kc hb2 c01 (by omega)
  replace c02 := kc hb2 c02 (by omega)
  replace hz := Nat.le_trans hz hb2.size
  clear hb2
  go_wp2_with fail
  refine (HS.out _).mono ?_
  rintro e w3 ⟨rfl, hb3⟩
  replace hB := hB.trans (hb3.mono (by omega))
  replace c00 := kc hb3 c00 (by omega)
  replace c01 := kc hb3 c01 (by omega)
  replace c02 := kc hb3 c02 (by omega)
  replace hz := Nat.le_trans hz hb3.size
  clear hb3
  have hl3 : w.heap.size < w3.heap.size := by omega
  go_wp2_with fail
  refine (HTF.out _).mono ?_
  rintro e w4 ⟨rfl, hb4⟩
  have hz4 : w3.heap.size + 1 ≤ w4.heap.size := by have := hb4.size; simpa using this
  have d0 := kc hb4 (b := w3.heap.size) (i := 0) (v := .int .i64 x) (by go_simp) (by simp)
  have d1 := kc hb4 (b := w3.heap.size) (i := 1) (v := .int .i64 y) (by go_simp) (by simp)
  have d2 := kc hb4 (b := w3.heap.size) (i := 2) (v := .int .i64 z) (by go_simp) (by simp)
  replace hB := (hB.alloc (by omega) _).trans (hb4.mono (by simp; omega))
  clear hb4
  go_wp2_with fail
  refine (HI.out _).mono ?_
  rintro e w5 ⟨rfl, hb5⟩
  replace d0 := kc hb5 d0 (by omega)
  replace d1 := kc hb5 d1 (by omega)
  replace d2 := kc hb5 d2 (by omega)
  replace hB := hB.trans (hb5.mono (by omega))
  replace hz4 := Nat.le_trans hz4 hb5.size
  clear hb5
  have hl5 : w3.heap.size < w5.heap.size := by omega
  go_wp2_with fail
  refine (HE.out _).mono ?_
  rintro e w6 ⟨rfl, hb6⟩
  go_wp2_with fail
  go_ret
  exact ⟨rfl, (hB.alloc (by omega) _).trans (hb6.mono (by simp; omega))⟩

set_option maxRecDepth 100000 in
theorem fnExactSeatAt_lifted (os : Os) (started : os.Started) (H : Type) (enc : TypeId × Value → H) :
    ReturnsInHanded {} Try.checked os 8 .any (Rows.fnExactSeatAtSpec.pre6 enc Try.prog Try.f8 Rows.fnExactSeatAtRow.domain false) (Rows.fnExactSeatAtSpec.post enc Try.prog Try.f8 false true false false) := by
  refine law_lifted started (by kernel_rfl) Try.func8 rfl rfl Try.underlying4 (by rw [Try.params8]; exact List.forall_mem_cons.2 ⟨⟨by kernel_rfl, of_decide_eq_true (by kernel_rfl)⟩, List.forall_mem_cons.2 ⟨⟨by kernel_rfl, of_decide_eq_true (by kernel_rfl)⟩, fun _ h => by cases h⟩⟩) (fun ds hd => ?_)
    (ChangeSpec.witness6 (enc := enc) (C := Try.checked) false ⟨#[], #[.agg #[.string ⟨#[]⟩, .int .i64 0, .int .i64 0], .int .i64 0], []⟩ 8 (by kernel_rfl) (by kernel_rfl) (by kernel_rfl) (by kernel_rfl)) ?_
  · match ds, hd with
    | [_, _], _ => rfl
  · intro W base args ds p hval hA hlt _
    rw [Try.params8] at hA hval
    obtain ⟨v0, vs0, d0, ds0, p0, q0, hargs, rfl, rfl, h0, r0⟩ := trodAll_cons hA
    obtain ⟨v1, vs1, d1, ds1, p1, q1, rfl, rfl, rfl, h1, r1⟩ := trodAll_cons r0
    obtain ⟨rfl, rfl, rfl⟩ := trodAll_nil r1
    obtain rfl : args = #[v0, v1] := by cases args; simp_all
    obtain ⟨a0x, a0y, a0z, rfl, rfl, w0⟩ := open_flight (hval 0 24 v0 rfl rfl) h0
    obtain ⟨a1, rfl, rfl, rfl, w1⟩ := open_int Try.underlying2 (hval 1 2 v1 rfl rfl) h1
    exact seatAt_walk a0x a0y a0z a1 W w0 w1

theorem fnExactSeatAt_holds : Rows.FnExactSeatAtSaid :=
  OpenClaim.holds_of_wide 8 Try.f8 rfl rfl rfl rfl rfl rfl rfl ⟨rfl, rfl, rfl, rfl, rfl⟩ rfl rfl rfl rfl rfl (by kernel_rfl) Try.func8 (by kernel_rfl)
    (of_decide_eq_true (by kernel_rfl)) (by unfold Func.isWrapper; first | (rw [if_pos (by decide +kernel)]; kernel_rfl) | (rw [if_neg (by decide +kernel)]; exact ⟨rfl, rfl⟩))
    (fun os started H enc _ => fnExactSeatAt_lifted os started H enc)
end Go.Proofs.Ytjejdfmeclbjeaa
