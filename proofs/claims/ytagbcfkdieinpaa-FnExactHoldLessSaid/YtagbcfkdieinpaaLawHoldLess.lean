/-
  FnExactHoldLess: the walk and the row: at every two holds impl answers as spec, and below the old heap nothing has turned.
-/
import Derived.Test.YtagbcfkdieinpaaOpenHold
import Derived.Test.YtagbcfkdieinpaaLift
import Derived.Deep.RegionHeld3
namespace Go.Proofs.Ytagbcfkdieinpaa
open Go.ChangeShapes Go.WideShapes Go.ChangeAt Go.RowKit Go.ChangeMaps
set_option linter.unusedSimpArgs false
set_option linter.unusedVariables false

set_option maxHeartbeats 2000000 in
theorem holdLess_walk (x y : HD) (w : World) (hx : x.f.size ≤ maxLen) (hy : y.f.size ≤ maxLen) : Calls Try.prog 3 #[holdV x.f x.r x.c, holdV y.f y.r y.c] w fun e w' => Holds e w w' := by
  have HS : Hid (∀ W : World, Calls Try.prog 8 #[holdV x.f x.r x.c, holdV y.f y.r y.c] W fun e w' => e = .returned (.bool (lessB x y)) ∧ Below W.heap.size W w') := fun W => sHoldLess_any x y W
  have HI : Hid (∀ W : World, Calls Try.prog 10 #[holdV x.f x.r x.c, holdV y.f y.r y.c] W fun e w' => e = .returned (.bool (lessB x y)) ∧ Below W.heap.size W w') := fun W => iHoldLess_any x y W
  have HTX : Hid (∀ (f : ByteArray) (r c : Int) (W : World), Calls Try.prog 9 #[holdV f r c] W fun e w' => e = .returned (holdV f r c) ∧ Below W.heap.size W w') := fun f r c W => toHold_any f r c W
  have HZX : Hid (∀ W : World, Calls Try.prog 7 #[holdV x.f x.r x.c, .int .i64 1048576] W fun e w' => e = .returned (.int .i64 (if (1048576 : Int) < x.f.size then -1 else 1048576 - x.f.size)) ∧ Below W.heap.size W w') := fun W => szHold_any x.f x.r x.c 1048576 W hx (by omega) (by omega)
  have HZY : ¬ (1048576 : Int) < x.f.size → Hid (∀ W : World, Calls Try.prog 7 #[holdV y.f y.r y.c, .int .i64 (1048576 - x.f.size)] W fun e w' => e = .returned (.int .i64 (if (1048576 - x.f.size : Int) < y.f.size then -1 else 1048576 - x.f.size - y.f.size)) ∧ Below W.heap.size W w') := fun h W => szHold_any y.f y.r y.c _ W hy (by omega) (by omega)
  unfold maxLen at hx hy
  obtain ⟨xf, xr, xc⟩ := x
  obtain ⟨yf, yr, yc⟩ := y
  dsimp only at *
  generalize lessB _ _ = b at *
  by_cases hbig : (1048576 : Int) < xf.size
  · rw [if_pos hbig] at HZX
    clear HZY
    go_enter Try.func3, Try.ntmps3
    go_wp2_with fail
    refine (HZX.out _).mono ?_
    rintro e w1 ⟨rfl, hb1⟩
    go_wp2_with fail
    go_ret
    exact ⟨rfl, ((Below.refl _ _).alloc (Nat.le_refl _) _ |>.alloc (by simp) _).trans (hb1.mono (by simp; omega))⟩
  rw [if_neg hbig] at HZX
  replace HZY := HZY hbig
  go_enter Try.func3, Try.ntmps3
  go_wp2_with fail
  refine (HZX.out _).mono ?_
  rintro e w1 ⟨rfl, hb1⟩
  have hB : Below w.heap.size w w1 := ((Below.refl _ _).alloc (Nat.le_refl _) _ |>.alloc (by simp) _).trans (hb1.mono (by simp; omega))
  have hz : w.heap.size + 2 ≤ w1.heap.size := by have := hb1.size; simpa using this
  have c00 := kc hb1 (b := w.heap.size) (i := 0) (v := .string xf) (by go_simp) (by simp; omega)
  have c01 := kc hb1 (b := w.heap.size) (i := 1) (v := .int .i64 xr) (by go_simp) (by simp; omega)
  have c02 := kc hb1 (b := w.heap.size) (i := 2) (v := .int .i64 xc) (by go_simp) (by simp; omega)
  have c10 := kc hb1 (b := w.heap.size + 1) (i := 0) (v := .string yf) (by go_simp) (by simp)
  have c11 := kc hb1 (b := w.heap.size + 1) (i := 1) (v := .int .i64 yr) (by go_simp) (by simp)
  have c12 := kc hb1 (b := w.heap.size + 1) (i := 2) (v := .int .i64 yc) (by go_simp) (by simp)
  clear hb1
  by_cases hbig2 : (1048576 - xf.size : Int) < yf.size
  · rw [if_pos hbig2] at HZY
    go_wp2_with fail
    refine (HZY.out _).mono ?_
    rintro e w2 ⟨rfl, hb2⟩
    go_wp2_with fail
    go_ret
    exact ⟨rfl, hB.trans (hb2.mono (by omega))⟩
  rw [if_neg hbig2] at HZY
  go_wp2_with fail
  refine (HZY.out _).mono ?_
  rintro e w2 ⟨rfl, hb2⟩
  replace hB := hB.trans (hb2.mono (by omega))
  replace c00 := kc hb2 c00 (by omega)
  replace c01 := kc hb2 c01 (by omega)
  replace c02 := kc hb2 c02 (by omega)
  replace c10 := kc hb2 c10 (by omega)
  replace c11 := kc hb2 c11 (by omega)
  replace c12 := kc hb2 c12 (by omega)
  replace hz := Nat.le_trans hz hb2.size
  have hBd := hB.drew
  clear hb2
  go_wp2_with fail
  go_region_held3 (fun W => W.cell? ⟨w.heap.size, 0, none⟩ = some (.string xf) ∧ W.cell? ⟨w.heap.size, 1, none⟩ = some (.int .i64 xr) ∧ W.cell? ⟨w.heap.size, 2, none⟩ = some (.int .i64 xc) ∧ W.cell? ⟨w.heap.size + 1, 0, none⟩ = some (.string yf) ∧ W.cell? ⟨w.heap.size + 1, 1, none⟩ = some (.int .i64 yr) ∧ W.cell? ⟨w.heap.size + 1, 2, none⟩ = some (.int .i64 yc) ∧ Below w.heap.size w W ∧ w.heap.size + 2 ≤ W.heap.size)
    (first | (go_keep; done) | (go_split_ands; exact ⟨kc hb (by assumption) (by omega), kc hb (by assumption) (by omega), kc hb (by assumption) (by omega), kc hb (by assumption) (by omega), kc hb (by assumption) (by omega), kc hb (by assumption) (by omega), bstep hb (by assumption) (by omega), zstep hb (by assumption)⟩))
    (first | (go_at_call 9; refine (HTX.out _ _ _ _).mono ?_; rintro e w' ⟨rfl, hb⟩) | (go_at_call 8; refine (HS.out _).mono ?_; rintro e w' ⟨rfl, hb⟩))
  clear c00 c01 c02 c10 c11 c12 hB hBd hz
  rename_i hHeld
  obtain ⟨c00, c01, c02, c10, c11, c12, hB, hz⟩ := hHeld
  have hBd := hB.drew
  go_wp2_with fail
  go_region_held3 (fun W => W.cell? ⟨w.heap.size, 0, none⟩ = some (.string xf) ∧ W.cell? ⟨w.heap.size, 1, none⟩ = some (.int .i64 xr) ∧ W.cell? ⟨w.heap.size, 2, none⟩ = some (.int .i64 xc) ∧ W.cell? ⟨w.heap.size + 1, 0, none⟩ = some (.string yf) ∧ W.cell? ⟨w.heap.size + 1, 1, none⟩ = some (.int .i64 yr) ∧ W.cell? ⟨w.heap.size + 1, 2, none⟩ = some (.int .i64 yc) ∧ Below w.heap.size w W ∧ w.heap.size + 2 ≤ W.heap.size)
    (first | (go_keep; done) | (go_split_ands; exact ⟨kc hb (by assumption) (by omega), kc hb (by assumption) (by omega), kc hb (by assumption) (by omega), kc hb (by assumption) (by omega), kc hb (by assumption) (by omega), kc hb (by assumption) (by omega), bstep hb (by assumption) (by omega), zstep hb (by assumption)⟩))
    (first | (go_at_call 9; refine (HTX.out _ _ _ _).mono ?_; rintro e w' ⟨rfl, hb⟩) | (go_at_call 10; refine (HI.out _).mono ?_; rintro e w' ⟨rfl, hb⟩))
  clear c00 c01 c02 c10 c11 c12 hB hBd hz
  rename_i hHeld
  obtain ⟨c00, c01, c02, c10, c11, c12, hB, hz⟩ := hHeld
  go_wp2_with fail
  go_ret
  exact ⟨rfl, hB⟩

set_option maxRecDepth 100000 in
theorem fnExactHoldLess_lifted (os : Os) (started : os.Started) (H : Type) (enc : TypeId × Value → H) :
    ReturnsInHanded {} Try.checked os 3 .any (Rows.fnExactHoldLessSpec.pre6 enc Try.prog Try.f3 Rows.fnExactHoldLessRow.domain false) (Rows.fnExactHoldLessSpec.post enc Try.prog Try.f3 false true false false) := by
  refine law_lifted started (by kernel_rfl) Try.func3 rfl rfl Try.underlying4 (by rw [Try.params3]; exact List.forall_mem_cons.2 ⟨⟨by kernel_rfl, of_decide_eq_true (by kernel_rfl)⟩, List.forall_mem_cons.2 ⟨⟨by kernel_rfl, of_decide_eq_true (by kernel_rfl)⟩, fun _ h => by cases h⟩⟩) (fun ds hd => ?_)
    (ChangeSpec.witness6 (enc := enc) (C := Try.checked) false ⟨#[], #[.agg #[.string ⟨#[]⟩, .int .i64 0, .int .i64 0], .agg #[.string ⟨#[]⟩, .int .i64 0, .int .i64 0]], []⟩ 8 (by kernel_rfl) (by kernel_rfl) (by kernel_rfl) (by kernel_rfl)) ?_
  · match ds, hd with
    | [_, _], _ => rfl
  · intro W base args ds p hval hA hlt _
    rw [Try.params3] at hA hval
    obtain ⟨v0, vs0, d0, ds0, p0, q0, hargs, rfl, rfl, h0, r0⟩ := trodAll_cons hA
    obtain ⟨v1, vs1, d1, ds1, p1, q1, rfl, rfl, rfl, h1, r1⟩ := trodAll_cons r0
    obtain ⟨rfl, rfl, rfl⟩ := trodAll_nil r1
    obtain rfl : args = #[v0, v1] := by cases args; simp_all
    obtain ⟨a0h, rfl, -, w0⟩ := open_hold (hval 0 25 v0 rfl rfl) h0
    obtain ⟨a1h, rfl, -, w1⟩ := open_hold (hval 1 25 v1 rfl rfl) h1
    exact holdLess_walk a0h a1h W w0 w1

theorem fnExactHoldLess_holds : Rows.FnExactHoldLessSaid :=
  OpenClaim.holds_of_wide 3 Try.f3 rfl rfl rfl rfl rfl rfl rfl ⟨rfl, rfl, rfl, rfl, rfl⟩ rfl rfl rfl rfl rfl (by kernel_rfl) Try.func3 (by kernel_rfl)
    (of_decide_eq_true (by kernel_rfl)) (by unfold Func.isWrapper; first | (rw [if_pos (by decide +kernel)]; kernel_rfl) | (rw [if_neg (by decide +kernel)]; exact ⟨rfl, rfl⟩))
    (fun os started H enc _ => fnExactHoldLess_lifted os started H enc)
end Go.Proofs.Ytagbcfkdieinpaa
