/-
  TokensRight: both functions answer 'toksOkB'; grantRight.
-/
import Derived.Test.YtjgcanhaelabaaaDoorTokC
import Derived.Test.YtjgcanhaelabaaaDoorCls
namespace Go.Proofs.YtjgcanhaelabaaaDoor
open Go.ChangeShapes Go.WideShapes Go.ChangeAt Go.RowKit Go.ChangeMaps
set_option maxRecDepth 10000
set_option linter.unusedSimpArgs false
set_option linter.unusedVariables false

theorem bdrewN {B : Nat} {a w : World} (h : Below B a w) (n : Nat) : Below B a (w.drewN n) := h.trans ⟨rfl, rfl, rfl, Nat.le_refl _, fun _ _ => rfl⟩
/-- What may be given. -/
def grantB (h r t : Int) : Bool := inB h 1 4 && (inB r 1 3 && inB t 0 1000000)
def tAt (l : List TK) (i : Nat) : TK := l.getD i ⟨0, 0, 0, 0⟩
theorem tAt_of {l : List TK} {i : Nat} {x : TK} (h : l[i]? = some x) : tAt l i = x := by simp [tAt, List.getD, h]
/-- The token at i stands right. -/
def tkAt (l : List TK) (i : Nat) : Bool := inB (tAt l i).n 1 999 && ((decide (i = 0) || decide ((tAt l (i - 1)).n < (tAt l i).n)) && grantB (tAt l i).h (tAt l i).r (tAt l i).t)
def toksOkB (l : List TK) : Bool := decide (l.length ≤ 20) && (List.range l.length).all (tkAt l)
def tkTo (l : List TK) (k : Nat) : Prop := ∀ i, i < k → tkAt l i = true
theorem tkTo_succ {l : List TK} {k : Nat} (h : tkTo l k) (hk : tkAt l k = true) : tkTo l (k + 1) := fun i hi => by
  rcases Nat.lt_or_ge i k with h1 | h1
  · exact h i h1
  · have : i = k := by omega
    rw [this]; exact hk
theorem toksOk_at {l : List TK} {k : Nat} (hk : k < l.length) (h : tkAt l k = false) : toksOkB l = false := by
  rw [toksOkB, Bool.and_eq_false_iff]
  exact .inr (List.all_eq_false.2 ⟨k, List.mem_range.2 hk, by simp [h]⟩)
theorem toksOk_len {l : List TK} (h : tkTo l l.length) : toksOkB l = decide (l.length ≤ 20) := by
  have : (List.range l.length).all (tkAt l) = true := List.all_eq_true.2 fun i hi => h i (List.mem_range.1 hi)
  rw [toksOkB, this, Bool.and_true]
theorem toksOk_big {l : List TK} (h : 20 < l.length) : toksOkB l = false := by rw [toksOkB, decide_eq_false (by omega)]; rfl

set_option maxHeartbeats 400000 in
theorem isHouseT_any (n : Int) (w : World) : Calls Tryd.prog 56 #[.int .i64 n] w fun e w' => e = .returned (.bool (inB n 1 4)) ∧ w = w' := by
  go_enter Tryd.func56, Tryd.ntmps56
  go_wp2
  all_goals
    go_ret
    refine ⟨ret_bool ?_, rfl⟩
    rw [Bool.eq_iff_iff]
    simp [inB]
    try omega
set_option maxHeartbeats 400000 in
theorem isTimeT_any (n : Int) (w : World) : Calls Tryd.prog 57 #[.int .i64 n] w fun e w' => e = .returned (.bool (inB n 0 1000000)) ∧ w = w' := by
  go_enter Tryd.func57, Tryd.ntmps57
  go_wp2
  all_goals
    go_ret
    refine ⟨ret_bool ?_, rfl⟩
    rw [Bool.eq_iff_iff]
    simp [inB]
    try omega
set_option maxHeartbeats 400000 in
theorem l03HouseT_any (n : Int) (w : World) : Calls Tryd.prog 38 #[.int .i64 n] w fun e w' => e = .returned (.bool (inB n 1 4)) ∧ w = w' := by
  go_enter Tryd.func38, Tryd.ntmps38
  go_wp2_with (go_at_call 26; refine (l02Is_any _ _ _ _).mono ?_; rintro e w' ⟨rfl, rfl⟩)
  go_ret
  exact ⟨rfl, rfl⟩
set_option maxHeartbeats 400000 in
theorem grantRight_any (h r t : Int) (w : World) : Calls Tryd.prog 32 #[.int .i64 h, .int .i64 r, .int .i64 t] w fun e w' => e = .returned (.bool (grantB h r t)) ∧ w = w' := by
  have HD : Hid (grantB h r t = (inB h 1 4 && (inB r 1 3 && inB t 0 1000000))) := rfl
  have HH : Hid (∀ W : World, Calls Tryd.prog 56 #[.int .i64 h] W fun e w' => e = .returned (.bool (inB h 1 4)) ∧ W = w') := fun W => isHouseT_any h W
  have HT : Hid (∀ W : World, Calls Tryd.prog 57 #[.int .i64 t] W fun e w' => e = .returned (.bool (inB t 0 1000000)) ∧ W = w') := fun W => isTimeT_any t W
  have HR : Hid (inB r 1 3 = (decide (1 ≤ r) && decide (r ≤ 3))) := rfl
  generalize grantB h r t = R at *
  generalize inB h 1 4 = b1 at *
  generalize inB t 0 1000000 = b2 at *
  cases b1
  · go_enter Tryd.func32, Tryd.ntmps32
    go_wp2_with (first | (go_at_call 56; refine (HH.out _).mono ?_; rintro e w' ⟨rfl, rfl⟩) | (go_at_call 57; refine (HT.out _).mono ?_; rintro e w' ⟨rfl, rfl⟩))
    all_goals
      go_ret
      exact ⟨ret_bool (by rw [HD.out]; simp), rfl⟩
  by_cases h1 : 1 ≤ r
  · by_cases h2 : r ≤ 3
    · go_enter Tryd.func32, Tryd.ntmps32
      go_wp2_with (first | (go_at_call 56; refine (HH.out _).mono ?_; rintro e w' ⟨rfl, rfl⟩) | (go_at_call 57; refine (HT.out _).mono ?_; rintro e w' ⟨rfl, rfl⟩))
      all_goals
        go_ret
        exact ⟨ret_bool (by rw [HD.out, HR.out]; simp; try omega), rfl⟩
    · go_enter Tryd.func32, Tryd.ntmps32
      go_wp2_with (first | (go_at_call 56; refine (HH.out _).mono ?_; rintro e w' ⟨rfl, rfl⟩) | (go_at_call 57; refine (HT.out _).mono ?_; rintro e w' ⟨rfl, rfl⟩))
      all_goals
        go_ret
        exact ⟨ret_bool (by rw [HD.out, HR.out]; simp; try omega), rfl⟩
  · go_enter Tryd.func32, Tryd.ntmps32
    go_wp2_with (first | (go_at_call 56; refine (HH.out _).mono ?_; rintro e w' ⟨rfl, rfl⟩) | (go_at_call 57; refine (HT.out _).mono ?_; rintro e w' ⟨rfl, rfl⟩))
    all_goals
      go_ret
      exact ⟨ret_bool (by rw [HD.out, HR.out]; simp; try omega), rfl⟩

theorem IW1 {k : Nat} {n : Nat} (h : k < n) (hn : n ≤ 1099511627) : IntKind.i64.wrap ((k : Int) - 1) = (k : Int) - 1 := IntWalk.i64_in _ (by omega)

set_option maxHeartbeats 2000000 in
theorem iTokensRight_any (l : List TK) (A : Option Addr) (cap : Nat) (w : World) (hl : Lies w w.heap.size 4 A l.length (toksC l)) (hm : l.length ≤ 1099511627) :
    Calls Tryd.prog 19 #[.slice A l.length cap] w fun e w' => e = .returned (.bool (toksOkB l)) ∧ Below w.heap.size w w' := by
  by_cases h20 : 20 < l.length
  · have HR := Lib.hid (toksOk_big h20)
    clear hl
    go_enter Tryd.func19, Tryd.ntmps19
    go_wp2
    go_ret
    exact ⟨ret_bool HR.out.symm, Below.refl _ _⟩
  have h20' : ¬ (20 : Int) < (l.length : Int) := by omega
  go_enter Tryd.func19, Tryd.ntmps19
  go_wp2
  go_loopw [10] (fun i wr => ∃ k : Nat, k ≤ l.length ∧ i = .int .i64 k ∧ Hid (tkTo l k) ∧ Below w.heap.size w wr) (fun i _ => l.length - (intOf i).toNat)
  case atStart => exact ⟨0, Nat.zero_le _, rfl, fun i hi => absurd hi (Nat.not_lt_zero _), Below.refl _ _⟩
  case round =>
    obtain ⟨k, hk, rfl, HA, hB⟩ := hrel
    by_cases hlt : k < l.length
    · have HN : Hid (tkAt l k = false → toksOkB l = false) := fun h => toksOk_at hlt h
      have HY : Hid (tkAt l k = true → tkTo l (k + 1)) := fun h => tkTo_succ HA.out h
      have hOK : Hid (tkAt l k = (inB (tAt l k).n 1 999 && ((decide (k = 0) || decide ((tAt l (k - 1)).n < (tAt l k).n)) && grantB (tAt l k).h (tAt l k).r (tAt l k).t))) := rfl
      have hprev : 0 < k → ∃ y : TK, tAt l (k - 1) = y ∧ ∀ b off, A = some ⟨b, off, none⟩ → wr.cell? ⟨b, off + (k - 1) * 4, none⟩ = some (.int .i64 y.n) := fun h0 => by
        obtain ⟨b', off', y, he, _, hy, d0, -⟩ := (hl.below hB).tok (show k - 1 < l.length by omega)
        refine ⟨y, tAt_of hy, fun b off h => ?_⟩
        rw [he] at h
        injection h with h
        injection h with h1 h2
        subst h1 h2
        exact d0
      obtain ⟨b, off, x, rfl, hlb, hx, c0, c1, c2, c3⟩ := (hl.below hB).tok hlt
      rw [tAt_of hx] at hOK
      clear hx hl
      have hz := hB.size
      have HG : Hid (∀ W : World, Calls Tryd.prog 32 #[.int .i64 x.h, .int .i64 x.r, .int .i64 x.t] W fun e w' => e = .returned (.bool (grantB x.h x.r x.t)) ∧ W = w') := fun W => grantRight_any x.h x.r x.t W
      obtain ⟨xn, xh, xr, xt⟩ := x
      dsimp only at *
      generalize grantB xh xr xt = g at *

      by_cases h1 : xn < 1
      · have HO : Hid (toksOkB l = false) := HN.out (by rw [hOK.out]; simp [inB]; omega)
        clear hOK HN HY HA hprev
        go_wp2_with (first | (go_at_call 32; refine (HG.out _).mono ?_; rintro e w' ⟨rfl, rfl⟩))
        go_ret
        exact ⟨ret_bool HO.out.symm, hB.trans ((show Below wr.heap.size wr _ from by go_grown).mono hz)⟩
      by_cases h2 : 999 < xn
      · have HO : Hid (toksOkB l = false) := HN.out (by rw [hOK.out]; simp [inB]; omega)
        clear hOK HN HY HA hprev
        go_wp2_with (first | (go_at_call 32; refine (HG.out _).mono ?_; rintro e w' ⟨rfl, rfl⟩))
        go_ret
        exact ⟨ret_bool HO.out.symm, hB.trans ((show Below wr.heap.size wr _ from by go_grown).mono hz)⟩
      cases g
      · have HO : Hid (toksOkB l = false) := HN.out (by rw [hOK.out]; simp)
        clear hOK HN HY HA hprev
        go_wp2_with (first | (go_at_call 32; refine (HG.out _).mono ?_; rintro e w' ⟨rfl, rfl⟩))
        go_ret
        exact ⟨ret_bool HO.out.symm, hB.trans ((show Below wr.heap.size wr _ from by go_grown).mono hz)⟩
      have hIB : inB xn 1 999 = true := by simp [inB]; omega
      rw [hIB] at hOK
      clear hIB
      by_cases hk0 : k = 0
      · subst hk0
        simp only [Nat.zero_mul, Nat.add_zero, Nat.zero_add] at c0 c1 c2 c3
        clear hprev
        have HO := Lib.hid (HY.out (by rw [hOK.out]; simp))
        clear hOK HN HY HA
        go_wp2_with (first | (go_at_call 32; refine (HG.out _).mono ?_; rintro e w' ⟨rfl, rfl⟩))
        go_quiet (fail)
        go_wp2_with fail
        go_roundw
        case rel => exact ⟨0 + 1, by omega, by go_num, HO, bdrewN (hB.trans (((Below.refl _ wr).alloc (Nat.le_refl _) _).mono hz)) _⟩
        case measure => simp [intOf]; omega
      obtain ⟨y, hy, hd⟩ := hprev (by omega)
      have d0 := hd b off rfl
      clear hd hprev
      rw [hy] at hOK
      clear hy
      obtain ⟨yn, yh, yr, yt⟩ := y
      dsimp only at *
      have hk1 : decide (0 < k) = true := decide_eq_true (by omega)
      have hk2 : decide ((0 : Int) < (k : Int)) = true := decide_eq_true (by omega)
      have hw1 := IW1 hlt hm
      have hw2 : (0 : Int) ≤ (k : Int) - 1 := by omega
      have hw4 : (k : Int) - 1 < (l.length : Int) := by omega
      have hw3 : ((k : Int) - 1).toNat = k - 1 := by omega
      have hW1 : Below w.heap.size w (wr.alloc (.cells #[.int .i64 xn, .int .i64 xh, .int .i64 xr, .int .i64 xt] 39)) := hB.trans (((Below.refl _ wr).alloc (Nat.le_refl _) _).mono hz)
      have e0 : ∀ p : Cls (wr.alloc (.cells #[.int .i64 xn, .int .i64 xh, .int .i64 xr, .int .i64 xt] 39)), p.W.cell? ⟨wr.heap.size, 0, none⟩ = some (.int .i64 xn) := Cls.cell (cell_of_row _ _ 0 _ _ _ (heap_alloc_new wr _))
      have e1 : ∀ p : Cls (wr.alloc (.cells #[.int .i64 xn, .int .i64 xh, .int .i64 xr, .int .i64 xt] 39)), p.W.cell? ⟨b, off + (k - 1) * 4, none⟩ = some (.int .i64 yn) := Cls.cell ((World.cell?_alloc_old wr _ ⟨b, off + (k - 1) * 4, none⟩ (Nat.ne_of_lt (World.block_lt_of_cell? wr _ d0))).trans d0)
      by_cases hyx : xn ≤ yn
      · have hyd : decide (xn ≤ yn) = true := decide_eq_true hyx
        have HO : Hid (toksOkB l = false) := HN.out (by rw [hOK.out]; simp [hk0]; omega)
        clear hOK HN HY HA
        go_wp2_with (first | (go_at_call 32; refine (HG.out _).mono ?_; rintro e w' ⟨rfl, rfl⟩))
        refine wp_region_cls (by kernel_rfl) (by kernel_rfl) ?_
        repeat (go_big_quiet_step (fail))
        refine wpQuiet_nil ?_
        rintro _ ⟨⟨W, hW⟩, rfl⟩
        have hBW := hW1.trans (hW.mono (by simp; omega))
        clear hw1 hw3 e0 e1
        go_wp2_with fail
        go_ret
        exact ⟨ret_bool HO.out.symm, hBW⟩
      · have hyx' : yn < xn := by omega
        have hyd : decide (xn ≤ yn) = false := decide_eq_false hyx
        have HO := Lib.hid (HY.out (by rw [hOK.out]; simp [hk0, hyx']))
        clear hOK HN HY HA
        go_wp2_with (first | (go_at_call 32; refine (HG.out _).mono ?_; rintro e w' ⟨rfl, rfl⟩))
        refine wp_region_cls (by kernel_rfl) (by kernel_rfl) ?_
        repeat (go_big_quiet_step (fail))
        refine wpQuiet_nil ?_
        rintro _ ⟨⟨W, hW⟩, rfl⟩
        have hBW := hW1.trans (hW.mono (by simp; omega))
        clear hw1 hw3 e0 e1
        go_wp2_with fail
        go_roundw
        case rel => exact ⟨k + 1, by omega, by go_num, HO, hBW⟩
        case measure => simp [intOf]; omega
    · obtain rfl : k = l.length := by omega
      have HE : Hid (toksOkB l = true) := by rw [Hid, toksOk_len HA.out, decide_eq_true (by omega)]
      clear hl HA
      go_wp2
      go_ret
      exact ⟨ret_bool HE.out.symm, hB⟩
end Go.Proofs.YtjgcanhaelabaaaDoor
