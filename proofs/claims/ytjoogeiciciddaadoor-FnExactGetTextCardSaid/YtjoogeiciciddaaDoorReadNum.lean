/-
  impl.readNum: the walk.
-/
import Derived.Test.YtjoogeiciciddaaDoorReadLaw
namespace Go.Proofs.YtjoogeiciciddaaDoor
open Go.ChangeShapes Go.WideShapes Go.ChangeAt Go.RowKit Go.ChangeMaps
set_option linter.unusedSimpArgs false
set_option linter.unusedVariables false

theorem unfold_not (y : Nat) (hy : y ≤ 9223372036854775807) : bits BinOp.xor IntKind.i64 (-1) (y : Int) = -(y : Int) - 1 := by
  show IntKind.i64.wrap ((BitVec.ofInt 64 (-1) ^^^ BitVec.ofInt 64 (y : Int)).toNat : Int) = _
  rw [show BitVec.ofInt 64 (-1) = BitVec.allOnes 64 from rfl, ← BitVec.not_def, BitVec.toNat_not, ofInt_u64 y (by omega), IntKind.wrap_i64]
  omega

set_option maxHeartbeats 400000 in
theorem unfoldSign_any (x : Nat) (hx : x < 18446744073709551616) (w : World) : Calls Tryd.prog 15 #[.int .u64 x] w fun e w' => e = .returned (.int .i64 (unfoldI x)) ∧ w = w' := by
  have HX := Lib.hid hx
  have e1 : (x : Int) / 2 = ((x / 2 : Nat) : Int) := by omega
  have e2 : wrap64 ((x : Int) / 2) = ((x / 2 : Nat) : Int) := by rw [e1]; exact IntWalk.wrap64_in _ (by omega)
  have E2 := Lib.hid e2
  clear hx e1 e2
  by_cases ho : x % 2 = 1
  · have HO := Lib.hid ho
    have ht : (bits BinOp.and IntKind.u64 (↑x) 1 == 1) = true := by
      have h := u64_and_nat x 1 HX.out (by omega)
      rw [show ((1 : Nat) : Int) = (1 : Int) from rfl] at h
      rw [h, nat_mask1, ho]
      rfl
    clear ho
    go_enter Tryd.func15, Tryd.ntmps15
    go_wp2
    go_ret
    refine ⟨ret_int ?_, rfl⟩
    show bits BinOp.xor IntKind.i64 (-1) (wrap64 (↑x / 2)) = _
    have hx := HX.out
    rw [E2.out, unfold_not _ (by omega), unfoldI, if_pos HO.out]
  · have HO := Lib.hid ho
    have ht : (bits BinOp.and IntKind.u64 (↑x) 1 == 1) = false := by
      have h := u64_and_nat x 1 HX.out (by omega)
      rw [show ((1 : Nat) : Int) = (1 : Int) from rfl] at h
      rw [h, nat_mask1, show x % 2 = 0 by omega]
      rfl
    clear ho
    go_enter Tryd.func15, Tryd.ntmps15
    go_wp2
    go_ret
    refine ⟨ret_int ?_, rfl⟩
    show wrap64 (↑x / 2) = _
    rw [E2.out, unfoldI, if_neg HO.out]

/-- What a jump out of a pass from 'more' owes. -/
theorem to_wrong {s : ByteArray} {p : Nat} {R : Int × Int × Int} {w : World} {a b : Act} {i : Nat} {c : Int} (hi : i ≤ 9) (h9 : b.tmps.getD 9 undef = .int .u64 ((7 * i : Nat) : Int))
    (h : ∃ x1 x7 x8 x9, rnIs s x1 x7 x8 x9 (.int .i64 c) a) (hc : c ≠ 0) (hr : (0, 0, c) = R) : rnJ s p R w 0 a w ∧ rnM 0 a w < rnM 1 b w := by
  obtain ⟨x1, x7, x8, x9, h⟩ := h
  refine ⟨⟨rfl, .inr (.inr ⟨rfl, x1, x7, x8, x9, c, h, hc, hr⟩)⟩, ?_⟩
  simp only [rnM, h9, intOf]
  simp
  omega
theorem to_last {s : ByteArray} {p : Nat} {R : Int × Int × Int} {w : World} {a b : Act} {i x c : Nat} (hi : i ≤ 9) (h9 : b.tmps.getD 9 undef = .int .u64 ((7 * i : Nat) : Int))
    (h : rnIs s (.int .i64 ((p + i + 1 : Nat) : Int)) (.int .u64 x) (.int .u8 c) (.int .u64 ((7 * i : Nat) : Int)) (.int .i64 3) a) (hc : c < 128) (hx : x < 18446744073709551616)
    (hr : (if c = 0 ∧ 0 < i then (0, 0, 3) else (unfoldI x, ((p + i + 1 : Nat) : Int), 0)) = R) : rnJ s p R w 2 a w ∧ rnM 2 a w < rnM 1 b w := by
  refine ⟨⟨rfl, .inr (.inl ⟨rfl, i, x, c, h, hi, hc, hx, hr⟩)⟩, ?_⟩
  simp only [rnM, h9, intOf]
  simp
  omega
theorem to_more {s : ByteArray} {p : Nat} {R : Int × Int × Int} {w : World} {a b : Act} {i x : Nat} {x8 : Value} (hi : i < 9) (h9 : b.tmps.getD 9 undef = .int .u64 ((7 * i : Nat) : Int))
    (h : rnIs s (.int .i64 ((p + (i + 1) : Nat) : Int)) (.int .u64 x) x8 (.int .u64 ((7 * (i + 1) : Nat) : Int)) (.int .i64 3) a) (hx : x < 2 ^ (7 * (i + 1))) (hr : rdN s p (10 - (i + 1)) (i + 1) x = R) :
    rnJ s p R w 1 a w ∧ rnM 1 a w < rnM 1 b w := by
  have h9' : a.tmps.getD 9 undef = .int .u64 ((7 * (i + 1) : Nat) : Int) := h.2.2.2.2.2.2.2.2.2.1
  refine ⟨⟨rfl, .inl ⟨rfl, i + 1, x, x8, h, by omega, hx, hr⟩⟩, ?_⟩
  simp only [rnM, h9, h9', intOf]
  simp
  omega

theorem last_wrong {s : ByteArray} {p : Nat} {R : Int × Int × Int} {w : World} {a b : Act} {c : Int} (h : ∃ x1 x7 x8 x9, rnIs s x1 x7 x8 x9 (.int .i64 c) a) (hc : c ≠ 0) (hr : (0, 0, c) = R) :
    rnJ s p R w 0 a w ∧ rnM 0 a w < rnM 2 b w := by
  obtain ⟨x1, x7, x8, x9, h⟩ := h
  exact ⟨⟨rfl, .inr (.inr ⟨rfl, x1, x7, x8, x9, c, h, hc, hr⟩)⟩, by simp [rnM]⟩
theorem orI0 (c : Nat) (hc : c < 256) : bits BinOp.or IntKind.u64 0 (IntKind.u64.wrap (IntKind.u64.wrap (bits BinOp.andNot IntKind.u8 ↑c 128))) = ((0 + c % 128 * 2 ^ (7 * 0) : Nat) : Int) := by
  have h := orI 0 c 0 (by omega) (by omega) hc (by omega)
  rw [show (2 : Int) ^ (7 * 0) = 1 from rfl, Int.mul_one] at h
  exact h
theorem orI9 (x c : Nat) (hx : x < 2 ^ (7 * 9)) (hc : c ≤ 1) : bits BinOp.or IntKind.u64 ↑x (IntKind.u64.wrap (IntKind.u64.wrap (bits BinOp.andNot IntKind.u8 ↑c 128) * 9223372036854775808)) = ((x + c % 128 * 2 ^ (7 * 9) : Nat) : Int) :=
  orI x c 9 (by omega) hx (by omega) (fun _ => hc)

theorem Jumps_ret {J : Nat → Act → World → Prop} {Q : Exit → Act → World → Prop} {a : Act} {w : World} : Jumps J Q .ret a w = Q .ret a w := rfl

set_option maxRecDepth 8000 in
set_option maxHeartbeats 2000000 in
theorem readNum_in (s : ByteArray) (p : Nat) (R : Int × Int × Int) (w : World) (hs : ¬ 8000 < s.size) (hp : p ≤ 9223372036854775807) (hR : rdN s p 10 0 0 = R) : Calls Tryd.prog 11 #[.string s, .int .i64 p] w (rnRet R w) := by
  go_enter Tryd.func11, Tryd.ntmps11
  go_wp2_with fail
  refine wp_scope_many (rnJ s p R w) rnM ?_ ?_ ?_
  · rintro l a w' ⟨rfl, ⟨rfl, _⟩ | ⟨rfl, _⟩ | ⟨rfl, _⟩⟩ <;> rfl
  · have HR := Lib.hid hR
    clear hR
    go_wp2_with (go_at_call 14; refine (tooLong_any _ _).mono ?_; rintro e w' ⟨rfl, rfl⟩)
    go_step3
    by_cases hlt : p < s.size
    · have hb : s[p].toNat < 256 := s[p].toNat_lt
      by_cases hc : s[p].toNat < 128
      · have hr := rdN_tail (p := p) (i := 0) (k := 9) (u := 0) hlt (by omega) hc
        rw [HR.out] at hr
        have HT := Lib.hid hr
        clear hr
        go_wp2
        go_step3
        show rnJ s p R w 2 _ w
        exact ⟨rfl, .inr (.inl ⟨rfl, 0, _, _, ⟨rfl, rfl, rfl, val_int (by omega), rfl, rfl, rfl, val_int (orI0 _ hb), rfl, rfl, rfl⟩, by omega, hc, grow64 0 _ 0 (by omega) (by omega) (by omega), HT.out.symm⟩)⟩
      · have hr := rdN_more (p := p) (i := 0) (k := 9) (u := 0) hlt (by omega) hc
        rw [HR.out] at hr
        have HT := Lib.hid hr
        clear hr
        go_wp2
        go_step3
        show rnJ s p R w 1 _ w
        exact ⟨rfl, .inl ⟨rfl, 0 + 1, _, _, ⟨rfl, rfl, rfl, val_int (by omega), rfl, rfl, rfl, val_int (orI0 _ hb), rfl, rfl, rfl⟩, by omega, grow 0 _ 0 (by omega), HT.out.symm⟩⟩
    · have hr := rdN_short (p := p) (i := 0) (k := 9) (u := 0) hlt
      rw [HR.out] at hr
      have HT := Lib.hid hr
      clear hr
      go_wp2
      go_step3
      exact (to_wrong (i := 0) (b := rnFrame s undef undef undef (.int .u64 ((7 * 0 : Nat) : Int)) undef (fun _ => undef)) (by omega) rfl ⟨_, _, _, _, rfl, rfl, rfl, rfl, rfl, rfl, rfl, rfl, rfl, rfl, rfl⟩ (by decide) HT.out.symm).1
  · rintro l a w' ⟨rfl, ⟨rfl, i, x, x8, ha, hi, hx, hr⟩ | ⟨rfl, i, x, c, ha, hi, hc, hx, hr⟩ | ⟨rfl, x1, x7, x8, x9, c, ha, hc, hr⟩⟩
    · obtain ⟨u, rfl⟩ := rnIs_frame ha
      have HR := Lib.hid hr
      have HX := Lib.hid hx
      obtain ⟨k, hk⟩ : ∃ k, 10 - i = k + 1 := ⟨9 - i, by omega⟩
      rw [hk] at HR
      have hk' : k = 10 - (i + 1) := by omega
      have HK := Lib.hid hk'
      clear hr hx ha hk hk' hR
      unfold rnFrame
      simp only [findLabel, Nat.reduceBEq, Bool.false_eq_true, if_false, if_true, Option.getD_some]
      by_cases hlt : p + i < s.size
      · have hb : s[p + i].toNat < 256 := s[p + i].toNat_lt
        by_cases h9 : i = 9 ∧ 1 < s[p + i].toNat
        · have hr := rdN_tenth (k := k) (u := x) hlt h9.1 h9.2
          rw [HR.out] at hr
          have HT := Lib.hid hr
          obtain ⟨hi9, h91⟩ := h9
          have hi9' : 9 ≤ i := by omega
          clear hi9 hr
          go_wp2
          all_goals go_step3
          exact to_wrong hi rfl ⟨_, _, _, _, rfl, rfl, rfl, rfl, rfl, rfl, rfl, rfl, rfl, rfl, rfl⟩ (by decide) HT.out.symm
        · by_cases hi9 : i = 9
          · subst hi9
            have hc1 : s[p + 9].toNat ≤ 1 := by omega
            have hr := rdN_tail (k := k) (u := x) hlt h9 (by omega)
            rw [HR.out] at hr
            have HT := Lib.hid hr
            clear hr h9
            go_wp2
            go_step3
            exact to_last hi rfl ⟨rfl, rfl, rfl, val_int (by omega), rfl, rfl, rfl, val_int (orI9 _ _ HX.out hc1), rfl, rfl, rfl⟩ (by omega) (grow64 x _ 9 (by omega) HX.out (fun _ => hc1)) HT.out.symm
          · have hi8 : i ≤ 8 := by omega
            by_cases hc : s[p + i].toNat < 128
            · have hr := rdN_tail (k := k) (u := x) hlt h9 hc
              rw [HR.out] at hr
              have HT := Lib.hid hr
              clear hr h9 hi9
              go_wp2
              go_step3
              exact to_last hi rfl ⟨rfl, rfl, rfl, val_int (by omega), rfl, rfl, rfl, val_int (orI _ _ _ hi HX.out hb (by omega)), rfl, rfl, rfl⟩ hc (grow64 x _ i hi HX.out (by omega)) HT.out.symm
            · have hr := rdN_more (k := k) (u := x) hlt h9 hc
              rw [HR.out] at hr
              have HT := Lib.hid hr
              clear hr h9 hi9
              go_wp2
              go_step3
              exact to_more (by omega) rfl ⟨rfl, rfl, rfl, val_int (by omega), rfl, rfl, rfl, val_int (orI _ _ _ hi HX.out hb (by omega)), rfl, val_int (by omega), rfl⟩ (grow x _ i HX.out) (by rw [← HK.out]; exact HT.out.symm)
      · have hr := rdN_short (k := k) (u := x) hlt
        rw [HR.out] at hr
        have HT := Lib.hid hr
        clear hr
        go_wp2
        go_step3
        exact to_wrong hi rfl ⟨_, _, _, _, rfl, rfl, rfl, rfl, rfl, rfl, rfl, rfl, rfl, rfl, rfl⟩ (by decide) HT.out.symm
    · obtain ⟨u, rfl⟩ := rnIs_frame ha
      have HR := Lib.hid hr
      have HX := Lib.hid hx
      clear hr hx ha hR
      unfold rnFrame
      simp only [findLabel, Nat.reduceBEq, Bool.false_eq_true, if_false, if_true, Option.getD_some]
      by_cases h0 : c = 0 ∧ 0 < i
      · have hr := HR.out
        rw [if_pos h0] at hr
        have HT := Lib.hid hr
        obtain ⟨hc0, hi0⟩ := h0
        subst hc0
        clear hr
        go_wp2
        go_step3
        exact last_wrong ⟨_, _, _, _, rfl, rfl, rfl, rfl, rfl, rfl, rfl, rfl, rfl, rfl, rfl⟩ (by decide) HT.out
      · have hr := HR.out
        rw [if_neg h0] at hr
        have HT := Lib.hid hr
        clear hr
        by_cases hc0 : c = 0
        · subst hc0
          have hi0 : i = 0 := by omega
          subst hi0
          clear h0
          go_wp2_with (go_at_call 15; refine (unfoldSign_any _ HX.out _).mono ?_; rintro e w' ⟨rfl, rfl⟩)
          rw [Jumps_ret]
          go_ret3
          refine ⟨?_, rfl⟩
          rw [← HT.out]
          rfl
        · have hc1 : 1 ≤ c := by omega
          clear h0 hc0
          go_wp2_with (go_at_call 15; refine (unfoldSign_any _ HX.out _).mono ?_; rintro e w' ⟨rfl, rfl⟩)
          rw [Jumps_ret]
          go_ret3
          refine ⟨?_, rfl⟩
          rw [← HT.out]
          rfl
    · obtain ⟨u, rfl⟩ := rnIs_frame ha
      have HR := Lib.hid hr
      clear hr ha hR
      unfold rnFrame
      simp only [findLabel, Nat.reduceBEq, Bool.false_eq_true, if_false, if_true, Option.getD_some]
      go_wp2
      rw [Jumps_ret]
      go_ret3
      refine ⟨?_, rfl⟩
      rw [← HR.out]
      simp [errV, hc]

theorem readNum_any (s : ByteArray) (p : Int) (n q c : Int) (w : World) (h1 : -9223372036854775808 ≤ p) (h2 : p ≤ 9223372036854775807) (hR : getN s p = (n, q, c)) :
    Calls Tryd.prog 11 #[.string s, .int .i64 p] w fun e w' => e = .returned (.tuple #[.int .i64 n, .int .i64 q, errV c]) ∧ w = w' := by
  by_cases hs : 8000 < s.size
  · rw [getN_long hs] at hR
    obtain ⟨rfl, rfl, rfl⟩ : 0 = n ∧ 0 = q ∧ 2 = c := by simpa using hR
    clear hR
    go_enter Tryd.func11, Tryd.ntmps11
    go_wp2_with fail
    go_step3
    go_wp2_with (go_at_call 14; refine (tooLong_any _ _).mono ?_; rintro e w' ⟨rfl, rfl⟩)
    rw [Exit.noGoto_ret]
    go_ret3
    exact ⟨rfl, rfl⟩
  by_cases hp : p < 0
  · rw [getN_neg hs hp] at hR
    obtain ⟨rfl, rfl, rfl⟩ : 0 = n ∧ 0 = q ∧ 1 = c := by simpa using hR
    clear hR
    go_enter Tryd.func11, Tryd.ntmps11
    go_wp2_with fail
    go_step3
    go_wp2_with (go_at_call 14; refine (tooLong_any _ _).mono ?_; rintro e w' ⟨rfl, rfl⟩)
    rw [Exit.noGoto_ret]
    go_ret3
    exact ⟨rfl, rfl⟩
  · rw [getN_at hs hp] at hR
    obtain ⟨k, rfl⟩ := nat_of (n := p) (by omega)
    exact (readNum_in s k _ w hs (by omega) hR).mono fun e w' h => h
end Go.Proofs.YtjoogeiciciddaaDoor
