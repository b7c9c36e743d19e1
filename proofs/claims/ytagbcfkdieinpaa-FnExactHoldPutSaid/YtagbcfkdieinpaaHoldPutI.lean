/-
  impl.HoldPut: the walk.
-/
import Derived.Test.YtagbcfkdieinpaaInsertGrow
import Derived.Test.YtagbcfkdieinpaaHoldPlace
import Derived.Test.YtagbcfkdieinpaaHoldsCopy
import Derived.Test.YtagbcfkdieinpaaHoldPutS
namespace Go.Proofs.Ytagbcfkdieinpaa
open Go.ChangeShapes Go.WideShapes Go.ChangeAt Go.RowKit Go.ChangeMaps
set_option linter.unusedSimpArgs false
set_option linter.unusedVariables false

theorem insert_any (l : List HD) (x : HD) (v : Value) (base vb i : Nat) (hi : i ≤ l.length) (W : World) (hown : W.ownsRow base 30 3 v l.length (holdsC l)) (hv : Block W vb 30 #[.string x.f, .int .i64 x.r, .int .i64 x.c]) (hne : ∀ g, v.ownBlock = some g → vb ≠ g) (hbase : base ≤ W.heap.size) (hm : l.length ≤ 1099511626) :
    Calls Try.prog 28 #[v, .int .i64 (i : Int), .slice (some ⟨vb, 0, none⟩) 1 1] W fun e w' => ∃ v', e = .returned v' ∧ w'.ownsRow base 30 3 v' (l.length + 1) (holdsC (l.take i ++ ([x] ++ l.drop i))) ∧ Below base W w' := by
  by_cases h : i = l.length
  · subst h
    have := insert_end l x v base vb W hown hv hbase hm
    simpa using this
  · obtain ⟨h1, ⟨rfl, h0⟩ | ⟨g, cap, cur, rfl, hbg, hg, hnc, hcm, hcs, htk⟩⟩ := hown
    · omega
    · by_cases hr : l.length + 1 ≤ cap
      · exact insert_room l x g cap base vb i cur W (by omega) hbg hg hcs htk hr hcm hv (hne g rfl) hbase
      · exact insert_grow l x g cap base vb i cur W (by omega) hg hcs htk hnc (by omega) hm hv hbase

set_option maxHeartbeats 2000000 in
theorem iHoldPut_any (l : List HD) (x : HD) (A : Option Addr) (cap : Nat) (w : World) (hl : Lies w w.heap.size 3 A l.length (holdsC l)) (hm : l.length ≤ 1099511626) (hf : ∀ y ∈ l, y.f.size ≤ 1099511627776) (hxf : x.f.size ≤ 1099511627776) :
    Calls Try.prog 14 #[.slice A l.length cap, holdV x.f x.r x.c] w (HoldsMade (putL l x) w) := by
  by_cases h400 : 400 < l.length
  · have HP := Lib.hid (putL_big (x := x) h400)
    clear hl
    go_enter Try.func14, Try.ntmps14
    go_wp2
    go_ret
    rw [HP.out]
    exact ⟨none, 0, by simp, World.ownsRow_nil _ _ _ _, by go_grown⟩
  · have hB1 : Below w.heap.size w (boxW w x) := (Below.refl _ w).alloc (Nat.le_refl _) _
    have HPl : Hid (∀ W : World, Below w.heap.size w W → Calls Try.prog 26 #[.slice A l.length cap, holdV x.f x.r x.c] W fun e w' => ∃ p : Nat, e = .returned (.tuple #[.int .i64 (p : Int), .bool (decide (x ∈ l))]) ∧ (x ∉ l → p = placeL l x) ∧ p ≤ l.length ∧ Below W.heap.size W w') := fun W hW => holdPlace_any l x A cap W (hl.on hW) (by omega)
    have HCp : Hid (∀ W : World, Below w.heap.size w W → Calls Try.prog 27 #[.slice A l.length cap] W fun e w' => ∃ v, e = .returned v ∧ w'.ownsRow W.heap.size 30 3 v l.length (holdsC l) ∧ Below W.heap.size W w') := fun W hW => holdsCopy_any l A cap W (hl.on hW) hm hf
    have HCo : Hid (∀ W : World, Calls Try.prog 29 #[holdV x.f x.r x.c] W fun e w' => e = .returned (holdV x.f x.r x.c) ∧ Below W.heap.size W w') := fun W => holdCopy_any x W hxf
    have HIn : Hid (∀ (v : Value) (W : World) (p : Nat), p ≤ l.length → W.ownsRow w.heap.size 30 3 v l.length (holdsC l) → w.heap.size ≤ W.heap.size → Calls Try.prog 28 #[v, .int .i64 (p : Int), .slice (some ⟨W.heap.size, 0, none⟩) 1 1] (W.alloc (.cells #[.string x.f, .int .i64 x.r, .int .i64 x.c] 30)) fun e w' => ∃ v', e = .returned v' ∧ w'.ownsRow w.heap.size 30 3 v' (l.length + 1) (holdsC (l.take p ++ ([x] ++ l.drop p))) ∧ Below w.heap.size W w') := fun v W p hp ho hz =>
      (insert_any l x v w.heap.size W.heap.size p hp _ (ho.alloc _) (Block.new W _ _) (fun g hg => by have := (ho.lt g hg).2; omega) (by simp; omega) hm).mono fun e w' ⟨v', h1, h2, h3⟩ => ⟨v', h1, h2, ((Below.refl _ W).alloc hz _).trans h3⟩
    have HP1 : Hid (x ∈ l → putL l x = l) := putL_there h400
    have HP2 : Hid (x ∉ l → putL l x = l.take (placeL l x) ++ ([x] ++ l.drop (placeL l x))) := putL_new h400
    have HLen : Hid (x ∉ l → (putL l x).length = l.length + 1) := putL_len h400
    obtain ⟨xf, xr, xc⟩ := x
    have x0 : (boxW w ⟨xf, xr, xc⟩).cell? ⟨w.heap.size, 0, none⟩ = some (.string xf) := cell_of_row _ _ _ _ _ (0, 0) (heap_alloc_new w _)
    have x1 : (boxW w ⟨xf, xr, xc⟩).cell? ⟨w.heap.size, 1, none⟩ = some (.int .i64 xr) := cell_of_row _ _ _ _ _ (0, 0) (heap_alloc_new w _)
    have x2 : (boxW w ⟨xf, xr, xc⟩).cell? ⟨w.heap.size, 2, none⟩ = some (.int .i64 xc) := cell_of_row _ _ _ _ _ (0, 0) (heap_alloc_new w _)
    have hbz : (boxW w ⟨xf, xr, xc⟩).heap.size = w.heap.size + 1 := by simp
    dsimp only at *
    clear hl hf
    by_cases hx : (⟨xf, xr, xc⟩ : HD) ∈ l
    · rw [decide_eq_true hx] at HPl
      have HP := Lib.hid (HP1.out hx)
      clear hx HP1 HP2 HLen HIn HCo
      go_enter Try.func14, Try.ntmps14
      go_wp2_with fail
      refine (HPl.out _ hB1).mono ?_
      rintro e w1 ⟨p, rfl, -, hp, hb1⟩
      have hB2 := hB1.trans (hb1.mono (by omega))
      clear hb1
      go_wp2_with fail
      refine (HCp.out _ hB2).mono ?_
      rintro e w2 ⟨v, rfl, hown, hb2⟩
      have HO := Lib.hid hown
      have hB3 := hB2.trans (hb2.mono hB2.size)
      clear hown hb2
      go_wp2_with fail
      go_ret
      rw [HP.out]
      exact made_of_own (by simp) (ownsRow_base HO.out hB2.size) rfl rfl hB3
    · rw [decide_eq_false hx] at HPl
      have HP := Lib.hid (HP2.out hx)
      have HL := Lib.hid (HLen.out hx)
      have HX := Lib.hid hx
      clear hx HP1 HP2 HLen
      go_enter Try.func14, Try.ntmps14
      go_wp2_with fail
      refine (HPl.out _ hB1).mono ?_
      rintro e w1 ⟨p, rfl, hp, hpl, hb1⟩
      have HQ := Lib.hid (hp HX.out)
      have hB2 := hB1.trans (hb1.mono (by omega))
      have d0 := kc hb1 x0 (by omega)
      have d1 := kc hb1 x1 (by omega)
      have d2 := kc hb1 x2 (by omega)
      have hz1 : w.heap.size + 1 ≤ w1.heap.size := by have := hb1.size; omega
      clear hb1 hp
      go_wp2_with fail
      refine (HCp.out _ hB2).mono ?_
      rintro e w2 ⟨v, rfl, hown, hb2⟩
      have HO := Lib.hid (ownsRow_base hown hB2.size)
      have hB3 := hB2.trans (hb2.mono hB2.size)
      have c0 := kc hb2 d0 (by omega)
      have c1 := kc hb2 d1 (by omega)
      have c2 := kc hb2 d2 (by omega)
      clear hown hb2 d0 d1 d2
      go_wp2_with fail
      refine (HCo.out _).mono ?_
      rintro e w3 ⟨rfl, hb3⟩
      have HO3 := Lib.hid (ownsRow_below HO.out hb3)
      have hB4 := hB3.trans (hb3.mono hB3.size)
      clear hb3 c0 c1 c2
      go_wp2_with fail
      refine (HIn.out _ _ _ hpl HO3.out hB4.size).mono ?_
      rintro e w4 ⟨v', rfl, hown4, hb4⟩
      have HO4 := Lib.hid hown4
      have hB5 := hB4.trans hb4
      clear hown4 hb4
      go_wp2_with fail
      go_ret
      exact made_of_own (by simp) HO4.out HL.out.symm (by rw [HP.out, HQ.out]) hB5
end Go.Proofs.Ytagbcfkdieinpaa
