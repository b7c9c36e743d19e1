/-
  spec.TokensRight: the walk.
-/
import Derived.Test.YtjgcanhaelabaaaDoorTokOk
namespace Go.Proofs.YtjgcanhaelabaaaDoor
open Go.ChangeShapes Go.WideShapes Go.ChangeAt Go.RowKit Go.ChangeMaps
set_option maxRecDepth 10000
set_option linter.unusedSimpArgs false
set_option linter.unusedVariables false

set_option maxHeartbeats 4000000 in
theorem sTokensRight_any (l : List TK) (A : Option Addr) (cap : Nat) (w : World) (hl : Lies w w.heap.size 4 A l.length (toksC l)) (hm : l.length ≤ 1099511627) :
    Calls Tryd.prog 20 #[.slice A l.length cap] w fun e w' => e = .returned (.bool (toksOkB l)) ∧ Below w.heap.size w w' := by
  go_enter Tryd.func20, Tryd.ntmps20
  go_wp2
  go_loopw [3] (fun i wr => ∃ k : Nat, k ≤ l.length ∧ i = .int .i64 k ∧ Hid (tkTo l k) ∧ Below w.heap.size w wr) (fun i _ => l.length - (intOf i).toNat)
  case atStart => exact ⟨0, Nat.zero_le _, rfl, fun i hi => absurd hi (Nat.not_lt_zero _), Below.refl _ _⟩
  case round =>
    obtain ⟨k, hk, rfl, HA, hB⟩ := hrel
    by_cases hlt : k < l.length
    · have HN : Hid (tkAt l k = false → toksOkB l = false) := fun h => toksOk_at hlt h
      have HY : Hid (tkAt l k = true → tkTo l (k + 1)) := fun h => tkTo_succ HA.out h
      have hOK : Hid (tkAt l k = (inB (tAt l k).n 1 999 && ((decide (k = 0) || decide ((tAt l (k - 1)).n < (tAt l k).n)) && grantB (tAt l k).h (tAt l k).r (tAt l k).t))) := rfl
      have hprev : 0 < k → ∃ y : TK, tAt l (k - 1) = y ∧ ∀ b off, A = some ⟨b, off, none⟩ → wr.cell? ⟨b, off + (k - 1) * 4, none⟩ = some (.int .i64 y.n) := fun h0 => by
        obtain ⟨b', off', y, he, _, hy, d0, -⟩ := (hl.below hB).tok (show k - 1 < l.length by omega)
        refine ⟨y, tAt_of hy, fun b off h => ?_⟩
        rw [he] at h
        injection h with h
        injection h with h1 h2
        subst h1 h2
        exact d0
      obtain ⟨b, off, x, rfl, hlb, hx, c0, c1, c2, c3⟩ := (hl.below hB).tok hlt
      rw [tAt_of hx] at hOK
      clear hx hl
      have hz := hB.size
      obtain ⟨xn, xh, xr, xt⟩ := x
      dsimp only at *
      have hG : Hid (grantB xh xr xt = (inB xh 1 4 && (inB xr 1 3 && inB xt 0 1000000))) := rfl
      have Hn : Hid (∀ p : Cls (wr.alloc (.cells #[.int .i64 xn, .int .i64 xh, .int .i64 xr, .int .i64 xt] 39)), Calls Tryd.prog 26 #[.int .i64 xn, .int .i64 1, .int .i64 999] p.W fun e w'' => e = .returned (.bool (inB xn 1 999)) ∧ ∃ p' : Cls (wr.alloc (.cells #[.int .i64 xn, .int .i64 xh, .int .i64 xr, .int .i64 xt] 39)), w'' = p'.W) := fun p => Cls.same (l02Is_any _ _ _ p.W)
      have Hr : Hid (∀ p : Cls (wr.alloc (.cells #[.int .i64 xn, .int .i64 xh, .int .i64 xr, .int .i64 xt] 39)), Calls Tryd.prog 26 #[.int .i64 xr, .int .i64 1, .int .i64 3] p.W fun e w'' => e = .returned (.bool (inB xr 1 3)) ∧ ∃ p' : Cls (wr.alloc (.cells #[.int .i64 xn, .int .i64 xh, .int .i64 xr, .int .i64 xt] 39)), w'' = p'.W) := fun p => Cls.same (l02Is_any _ _ _ p.W)
      have Ht : Hid (∀ p : Cls (wr.alloc (.cells #[.int .i64 xn, .int .i64 xh, .int .i64 xr, .int .i64 xt] 39)), Calls Tryd.prog 26 #[.int .i64 xt, .int .i64 0, .int .i64 1000000] p.W fun e w'' => e = .returned (.bool (inB xt 0 1000000)) ∧ ∃ p' : Cls (wr.alloc (.cells #[.int .i64 xn, .int .i64 xh, .int .i64 xr, .int .i64 xt] 39)), w'' = p'.W) := fun p => Cls.same (l02Is_any _ _ _ p.W)
      have Hh : Hid (∀ p : Cls (wr.alloc (.cells #[.int .i64 xn, .int .i64 xh, .int .i64 xr, .int .i64 xt] 39)), Calls Tryd.prog 38 #[.int .i64 xh] p.W fun e w'' => e = .returned (.bool (inB xh 1 4)) ∧ ∃ p' : Cls (wr.alloc (.cells #[.int .i64 xn, .int .i64 xh, .int .i64 xr, .int .i64 xt] 39)), w'' = p'.W) := fun p => Cls.same (l03HouseT_any _ p.W)
      rw [hG.out] at hOK
      clear hG
      generalize inB xn 1 999 = bn at *
      generalize inB xh 1 4 = bh at *
      generalize inB xr 1 3 = br at *
      generalize inB xt 0 1000000 = bt at *
      have hW1 : Below w.heap.size w (wr.alloc (.cells #[.int .i64 xn, .int .i64 xh, .int .i64 xr, .int .i64 xt] 39)) := hB.trans (((Below.refl _ wr).alloc (Nat.le_refl _) _).mono hz)
      have e0 : ∀ p : Cls (wr.alloc (.cells #[.int .i64 xn, .int .i64 xh, .int .i64 xr, .int .i64 xt] 39)), p.W.cell? ⟨wr.heap.size, 0, none⟩ = some (.int .i64 xn) := Cls.cell (cell_of_row _ _ 0 _ _ _ (heap_alloc_new wr _))
      have e1 : ∀ p : Cls (wr.alloc (.cells #[.int .i64 xn, .int .i64 xh, .int .i64 xr, .int .i64 xt] 39)), p.W.cell? ⟨wr.heap.size, 1, none⟩ = some (.int .i64 xh) := Cls.cell (cell_of_row _ _ 1 _ _ _ (heap_alloc_new wr _))
      have e2 : ∀ p : Cls (wr.alloc (.cells #[.int .i64 xn, .int .i64 xh, .int .i64 xr, .int .i64 xt] 39)), p.W.cell? ⟨wr.heap.size, 2, none⟩ = some (.int .i64 xr) := Cls.cell (cell_of_row _ _ 2 _ _ _ (heap_alloc_new wr _))
      have e3 : ∀ p : Cls (wr.alloc (.cells #[.int .i64 xn, .int .i64 xh, .int .i64 xr, .int .i64 xt] 39)), p.W.cell? ⟨wr.heap.size, 3, none⟩ = some (.int .i64 xt) := Cls.cell (cell_of_row _ _ 3 _ _ _ (heap_alloc_new wr _))
      cases bn
      · have HO : Hid (toksOkB l = false) := HN.out (by rw [hOK.out]; simp)
        clear hOK HN HY HA hprev
        go_wp2_with fail
        refine wp_region_cls (by kernel_rfl) (by kernel_rfl) ?_
        repeat (go_big_quiet_step (first | (go_at_call 26; first | (with_reducible exact Hn.out _) | (with_reducible exact Hr.out _) | (with_reducible exact Ht.out _)) | (go_at_call 38; exact Hh.out _)))
        refine wpQuiet_nil ?_
        rintro _ ⟨⟨W, hW⟩, rfl⟩
        have hBW := hW1.trans (hW.mono (by simp; omega))
        go_wp2_with fail
        go_ret
        exact ⟨ret_bool HO.out.symm, hBW⟩
      by_cases hk0 : k = 0
      · subst hk0
        simp only [Nat.zero_mul, Nat.add_zero, Nat.zero_add] at c0 c1 c2 c3
        clear hprev
        cases bh
        · have HO : Hid (toksOkB l = false) := HN.out (by rw [hOK.out]; simp)
          clear hOK HN HY HA
          go_wp2_with fail
          refine wp_region_cls (by kernel_rfl) (by kernel_rfl) ?_
          repeat (go_big_quiet_step (first | (go_at_call 26; first | (with_reducible exact Hn.out _) | (with_reducible exact Hr.out _) | (with_reducible exact Ht.out _)) | (go_at_call 38; exact Hh.out _)))
          refine wpQuiet_nil ?_
          rintro _ ⟨⟨W, hW⟩, rfl⟩
          have hBW := hW1.trans (hW.mono (by simp; omega))
          go_wp2_with fail
          go_ret
          exact ⟨ret_bool HO.out.symm, hBW⟩
        cases br
        · have HO : Hid (toksOkB l = false) := HN.out (by rw [hOK.out]; simp)
          clear hOK HN HY HA
          go_wp2_with fail
          refine wp_region_cls (by kernel_rfl) (by kernel_rfl) ?_
          repeat (go_big_quiet_step (first | (go_at_call 26; first | (with_reducible exact Hn.out _) | (with_reducible exact Hr.out _) | (with_reducible exact Ht.out _)) | (go_at_call 38; exact Hh.out _)))
          refine wpQuiet_nil ?_
          rintro _ ⟨⟨W, hW⟩, rfl⟩
          have hBW := hW1.trans (hW.mono (by simp; omega))
          go_wp2_with fail
          go_ret
          exact ⟨ret_bool HO.out.symm, hBW⟩
        cases bt
        · have HO : Hid (toksOkB l = false) := HN.out (by rw [hOK.out]; simp)
          clear hOK HN HY HA
          go_wp2_with fail
          refine wp_region_cls (by kernel_rfl) (by kernel_rfl) ?_
          repeat (go_big_quiet_step (first | (go_at_call 26; first | (with_reducible exact Hn.out _) | (with_reducible exact Hr.out _) | (with_reducible exact Ht.out _)) | (go_at_call 38; exact Hh.out _)))
          refine wpQuiet_nil ?_
          rintro _ ⟨⟨W, hW⟩, rfl⟩
          have hBW := hW1.trans (hW.mono (by simp; omega))
          go_wp2_with fail
          go_ret
          exact ⟨ret_bool HO.out.symm, hBW⟩
        have HO := Lib.hid (HY.out (by rw [hOK.out]; simp))
        clear hOK HN HY HA
        go_wp2_with fail
        refine wp_region_cls (by kernel_rfl) (by kernel_rfl) ?_
        repeat (go_big_quiet_step (first | (go_at_call 26; first | (with_reducible exact Hn.out _) | (with_reducible exact Hr.out _) | (with_reducible exact Ht.out _)) | (go_at_call 38; exact Hh.out _)))
        refine wpQuiet_nil ?_
        rintro _ ⟨⟨W, hW⟩, rfl⟩
        have hBW := hW1.trans (hW.mono (by simp; omega))
        skip
        go_wp2_with fail
        go_roundw
        case rel => exact ⟨0 + 1, by omega, by go_num, HO, hBW⟩
        case measure => simp [intOf]; omega
      obtain ⟨y, hy, hd⟩ := hprev (by omega)
      have d0 := hd b off rfl
      clear hd hprev
      rw [hy] at hOK
      clear hy
      obtain ⟨yn, yh, yr, yt⟩ := y
      dsimp only at *
      have hk1 : decide (0 < k) = true := decide_eq_true (by omega)
      have hk2 : decide ((0 : Int) < (k : Int)) = true := decide_eq_true (by omega)
      have hw1 := IW1 hlt hm
      have hw2 : (0 : Int) ≤ (k : Int) - 1 := by omega
      have hw4 : (k : Int) - 1 < (l.length : Int) := by omega
      have hw3 : ((k : Int) - 1).toNat = k - 1 := by omega
      have e4 : ∀ p : Cls (wr.alloc (.cells #[.int .i64 xn, .int .i64 xh, .int .i64 xr, .int .i64 xt] 39)), p.W.cell? ⟨b, off + (k - 1) * 4, none⟩ = some (.int .i64 yn) := Cls.cell ((World.cell?_alloc_old wr _ ⟨b, off + (k - 1) * 4, none⟩ (Nat.ne_of_lt (World.block_lt_of_cell? wr _ d0))).trans d0)
      by_cases hyx : xn ≤ yn
      · have hyd : decide (xn ≤ yn) = true := decide_eq_true hyx
        have HO : Hid (toksOkB l = false) := HN.out (by rw [hOK.out]; simp [hk0]; omega)
        clear hOK HN HY HA
        go_wp2_with fail
        refine wp_region_cls (by kernel_rfl) (by kernel_rfl) ?_
        repeat (go_big_quiet_step (first | (go_at_call 26; first | (with_reducible exact Hn.out _) | (with_reducible exact Hr.out _) | (with_reducible exact Ht.out _)) | (go_at_call 38; exact Hh.out _)))
        refine wpQuiet_nil ?_
        rintro _ ⟨⟨W, hW⟩, rfl⟩
        have hBW := hW1.trans (hW.mono (by simp; omega))
        go_wp2_with fail
        go_ret
        exact ⟨ret_bool HO.out.symm, hBW⟩
      have hyx' : yn < xn := by omega
      have hyd : decide (xn ≤ yn) = false := decide_eq_false hyx
      cases bh
      · have HO : Hid (toksOkB l = false) := HN.out (by rw [hOK.out]; simp [hk0, hyx'])
        clear hOK HN HY HA
        go_wp2_with fail
        refine wp_region_cls (by kernel_rfl) (by kernel_rfl) ?_
        repeat (go_big_quiet_step (first | (go_at_call 26; first | (with_reducible exact Hn.out _) | (with_reducible exact Hr.out _) | (with_reducible exact Ht.out _)) | (go_at_call 38; exact Hh.out _)))
        refine wpQuiet_nil ?_
        rintro _ ⟨⟨W, hW⟩, rfl⟩
        have hBW := hW1.trans (hW.mono (by simp; omega))
        go_wp2_with fail
        go_ret
        exact ⟨ret_bool HO.out.symm, hBW⟩
      cases br
      · have HO : Hid (toksOkB l = false) := HN.out (by rw [hOK.out]; simp [hk0, hyx'])
        clear hOK HN HY HA
        go_wp2_with fail
        refine wp_region_cls (by kernel_rfl) (by kernel_rfl) ?_
        repeat (go_big_quiet_step (first | (go_at_call 26; first | (with_reducible exact Hn.out _) | (with_reducible exact Hr.out _) | (with_reducible exact Ht.out _)) | (go_at_call 38; exact Hh.out _)))
        refine wpQuiet_nil ?_
        rintro _ ⟨⟨W, hW⟩, rfl⟩
        have hBW := hW1.trans (hW.mono (by simp; omega))
        go_wp2_with fail
        go_ret
        exact ⟨ret_bool HO.out.symm, hBW⟩
      cases bt
      · have HO : Hid (toksOkB l = false) := HN.out (by rw [hOK.out]; simp [hk0, hyx'])
        clear hOK HN HY HA
        go_wp2_with fail
        refine wp_region_cls (by kernel_rfl) (by kernel_rfl) ?_
        repeat (go_big_quiet_step (first | (go_at_call 26; first | (with_reducible exact Hn.out _) | (with_reducible exact Hr.out _) | (with_reducible exact Ht.out _)) | (go_at_call 38; exact Hh.out _)))
        refine wpQuiet_nil ?_
        rintro _ ⟨⟨W, hW⟩, rfl⟩
        have hBW := hW1.trans (hW.mono (by simp; omega))
        go_wp2_with fail
        go_ret
        exact ⟨ret_bool HO.out.symm, hBW⟩
      have HO := Lib.hid (HY.out (by rw [hOK.out]; simp [hk0, hyx']))
      clear hOK HN HY HA
      go_wp2_with fail
      refine wp_region_cls (by kernel_rfl) (by kernel_rfl) ?_
      repeat (go_big_quiet_step (first | (go_at_call 26; first | (with_reducible exact Hn.out _) | (with_reducible exact Hr.out _) | (with_reducible exact Ht.out _)) | (go_at_call 38; exact Hh.out _)))
      refine wpQuiet_nil ?_
      rintro _ ⟨⟨W, hW⟩, rfl⟩
      have hBW := hW1.trans (hW.mono (by simp; omega))
      clear hw1 hw3 e0 e1 e2 e3 e4
      go_wp2_with fail
      go_roundw
      case rel => exact ⟨k + 1, by omega, by go_num, HO, hBW⟩
      case measure => simp [intOf]; omega
    · obtain rfl : k = l.length := by omega
      have HE := Lib.hid (toksOk_len HA.out)
      clear hl HA
      by_cases h4 : l.length ≤ 20
      · have HE2 : Hid (toksOkB l = true) := by rw [Hid, HE.out, decide_eq_true h4]
        go_wp2
        go_ret
        exact ⟨ret_bool (by rw [HE2.out]; simp; omega), hB⟩
      · have HE2 : Hid (toksOkB l = false) := by rw [Hid, HE.out, decide_eq_false h4]
        go_wp2
        go_ret
        exact ⟨ret_bool (by rw [HE2.out]; simp; omega), hB⟩
end Go.Proofs.YtjgcanhaelabaaaDoor
