/-
  spec.GetNum: the walk.
-/
import Derived.Test.YtjoogeiciciddaaDoorGet
import Derived.Handy
namespace Go.Proofs.YtjoogeiciciddaaDoor
open Go.ChangeShapes Go.WideShapes Go.ChangeAt Go.RowKit Go.ChangeMaps
set_option linter.unusedSimpArgs false
set_option linter.unusedVariables false

theorem num_ret {a b d n q c : Int} (h1 : a = n) (h2 : b = q) (h3 : d = c) : Ending.returned (.agg #[.int .i64 a, .int .i64 b, .int .i64 d]) = .returned (numOut n q c) := by rw [h1, h2, h3]; rfl
theorem addI (x c i : Nat) (hi : i ≤ 9) (hx : x < 2 ^ (7 * i)) (h9 : i = 9 → c ≤ 1) :
    IntKind.u64.wrap (↑x + IntKind.u64.wrap (↑c % 128 * 2 ^ (7 * i))) = ((x + c % 128 * 2 ^ (7 * i) : Nat) : Int) := by
  have hp := part_lt c i hi h9
  have h7 := pow_seven i hi
  have e2 : ((c : Int) % 128 * 2 ^ (7 * i)) = ((c % 128 * 2 ^ (7 * i) : Nat) : Int) := by simp
  rw [e2]
  generalize c % 128 * 2 ^ (7 * i) = Y at *
  have e3 : IntKind.u64.wrap (Y : Int) = (Y : Int) := IntWalk.u64_in _ (by omega)
  have e4 : IntKind.u64.wrap ((x : Int) + Y) = ((x + Y : Nat) : Int) := by rw [IntWalk.u64_in _ (by omega)]; omega
  rw [e3, e4]
theorem addI9 (x c : Nat) (hx : x < 2 ^ (7 * 9)) (hc : c ≤ 1) : IntKind.u64.wrap (↑x + ↑c % 128 * 9223372036854775808) = ((x + c % 128 * 2 ^ (7 * 9) : Nat) : Int) := by
  have h : (2 : Nat) ^ (7 * 9) = 9223372036854775808 := by decide
  rw [h] at hx ⊢
  rw [IntWalk.u64_in _ (by omega)]
  omega
theorem parts3 {a b d n q c : Int} (h : (a, b, d) = (n, q, c)) : a = n ∧ b = q ∧ d = c := by simpa using h

set_option maxRecDepth 8000 in
set_option maxHeartbeats 4000000 in
theorem sGetNum_in (s : ByteArray) (p : Nat) (n q c : Int) (w : World) (hs : ¬ 8000 < s.size) (hp : p ≤ 9223372036854775807) (hR : rdN s p 10 0 0 = (n, q, c)) :
    Calls Tryd.prog 5 #[.string s, .int .i64 p] w fun e w' => e = .returned (numOut n q c) ∧ Below w.heap.size w w' := by
  have HR0 := Lib.hid hR
  clear hR
  go_enter Tryd.func5, Tryd.ntmps5
  go_wp2_with fail
  go_loop [5, 6] (fun a b => ∃ i x : Nat, i ≤ 10 ∧ b = .int .i64 i ∧ a = .int .u64 x ∧ Hid (x < 2 ^ (7 * i)) ∧ Hid (rdN s p (10 - i) i x = (n, q, c))) (fun _ b => 10 - (intOf b).toNat)
  case atStart => exact ⟨0, 0, by omega, rfl, rfl, (by decide : 0 < 2 ^ (7 * 0)), HR0⟩
  case round =>
    obtain ⟨i, x, hi, rfl, rfl, HX, HR⟩ := hrel
    by_cases h10 : i = 10
    · subst h10
      go_wp2_with fail
      go_returns
      obtain ⟨q1, q2, q3⟩ := parts3 HR.out
      exact ⟨num_ret q1 q2 q3, by go_grown⟩
    · have hi9 : i ≤ 9 := by omega
      obtain ⟨k, hk⟩ : ∃ k, 10 - i = k + 1 := ⟨9 - i, by omega⟩
      rw [hk] at HR
      have HK := Lib.hid (show k = 10 - (i + 1) by omega)
      clear hk h10
      by_cases hlt : p + i < s.size
      · have hb : s[p + i].toNat < 256 := s[p + i].toNat_lt
        by_cases h9 : i = 9 ∧ 1 < s[p + i].toNat
        · have hr := rdN_tenth (k := k) (u := x) hlt h9.1 h9.2
          rw [HR.out] at hr
          have HT := Lib.hid hr.symm
          obtain ⟨hi9', h91⟩ := h9
          have hi9'' : 9 ≤ i := by omega
          clear hi9' hr
          go_wp2_with fail
          go_returns
          obtain ⟨q1, q2, q3⟩ := parts3 HT.out
          exact ⟨num_ret q1 q2 q3, by go_grown⟩
        · by_cases hc : s[p + i].toNat < 128
          · have hr := rdN_tail (k := k) (u := x) hlt h9 hc
            rw [HR.out] at hr
            by_cases h0 : s[p + i].toNat = 0
            · by_cases hi0 : 0 < i
              · rw [if_pos ⟨h0, hi0⟩] at hr
                have HT := Lib.hid hr.symm
                have h0' : s[p + i].toNat ≤ 0 := by omega
                clear hr h9 h0
                by_cases hi99 : 9 ≤ i
                · go_wp2_with fail
                  go_returns
                  obtain ⟨q1, q2, q3⟩ := parts3 HT.out
                  exact ⟨num_ret q1 q2 q3, by go_grown⟩
                · go_wp2_with fail
                  go_returns
                  obtain ⟨q1, q2, q3⟩ := parts3 HT.out
                  exact ⟨num_ret q1 q2 q3, by go_grown⟩
              · rw [if_neg (by omega)] at hr
                have HT := Lib.hid hr.symm
                obtain rfl : i = 0 := by omega
                obtain rfl : x = 0 := by have := HX.out; omega
                rw [h0] at HT
                have hlt' : p < s.size := by omega
                have hz : (s[p]'hlt').toNat = 0 := h0
                clear hr h9 h0 hc hb hlt hi0 hi9 hi
                go_wp2_with fail
                go_returns
                obtain ⟨q1, q2, q3⟩ := parts3 HT.out
                exact ⟨num_ret q1 (by rw [← q2]; omega) q3, by go_grown⟩
            · rw [if_neg (by omega)] at hr
              by_cases hi99 : i = 9
              · subst hi99
                have hY := addI9 x s[p + 9].toNat HX.out (by omega)
                have hy := grow64 x s[p + 9].toNat 9 (by omega) HX.out (by omega)
                generalize x + s[p + 9].toNat % 128 * 2 ^ (7 * 9) = y at *
                have HT := Lib.hid hr.symm
                have hc2 : s[p + 9].toNat ≤ 1 := by omega
                have hc1 : 1 ≤ s[p + 9].toNat := by omega
                clear hr h9 h0
                have hy2 : y / 2 ≤ 9223372036854775807 := by omega
                clear hy
                by_cases ho : y % 2 = 1
                · have ht : (((y : Nat) : Int) % 2 == 1) = true := by rw [beq_iff_eq]; omega
                  have HO := Lib.hid ho
                  clear ho
                  go_wp2_with fail
                  go_returns
                  obtain ⟨q1, q2, q3⟩ := parts3 HT.out
                  exact ⟨num_ret (by rw [← q1, unfoldI, if_pos HO.out]; omega) (by rw [← q2]; omega) q3, by go_grown⟩
                · have ht : (((y : Nat) : Int) % 2 == 1) = false := by rw [beq_eq_false_iff_ne]; omega
                  have HO := Lib.hid ho
                  clear ho
                  go_wp2_with fail
                  go_returns
                  obtain ⟨q1, q2, q3⟩ := parts3 HT.out
                  exact ⟨num_ret (by rw [← q1, unfoldI, if_neg HO.out]; omega) (by rw [← q2]; omega) q3, by go_grown⟩
              · have hi8 : i ≤ 8 := by omega
                have hY := addI x s[p + i].toNat i hi9 HX.out (by omega)
                have hy := grow64 x s[p + i].toNat i hi9 HX.out (by omega)
                generalize x + s[p + i].toNat % 128 * 2 ^ (7 * i) = y at *
                have HT := Lib.hid hr.symm
                have hc1 : 1 ≤ s[p + i].toNat := by omega
                clear hr h9 hi99 h0
                have hy2 : y / 2 ≤ 9223372036854775807 := by omega
                clear hy
                by_cases ho : y % 2 = 1
                · have ht : (((y : Nat) : Int) % 2 == 1) = true := by rw [beq_iff_eq]; omega
                  have HO := Lib.hid ho
                  clear ho
                  go_wp2_with fail
                  go_returns
                  obtain ⟨q1, q2, q3⟩ := parts3 HT.out
                  exact ⟨num_ret (by rw [← q1, unfoldI, if_pos HO.out]; omega) (by rw [← q2]; omega) q3, by go_grown⟩
                · have ht : (((y : Nat) : Int) % 2 == 1) = false := by rw [beq_eq_false_iff_ne]; omega
                  have HO := Lib.hid ho
                  clear ho
                  go_wp2_with fail
                  go_returns
                  obtain ⟨q1, q2, q3⟩ := parts3 HT.out
                  exact ⟨num_ret (by rw [← q1, unfoldI, if_neg HO.out]; omega) (by rw [← q2]; omega) q3, by go_grown⟩
          · have hr := rdN_more (k := k) (u := x) hlt h9 hc
            rw [HR.out] at hr
            have HT := Lib.hid hr
            have hi8 : i ≤ 8 := by omega
            clear hr h9
            go_wp2_with fail
            go_round
            case rel => exact ⟨i + 1, _, by omega, by go_num, val_int (addI x s[p + i].toNat i hi9 HX.out (by omega)), grow x _ i HX.out, by rw [← HK.out]; exact HT.out.symm⟩
            case measure => simp [intOf]; omega
      · have hr := rdN_short (k := k) (u := x) hlt
        rw [HR.out] at hr
        have HT := Lib.hid hr.symm
        clear hr
        go_wp2_with fail
        go_returns
        obtain ⟨q1, q2, q3⟩ := parts3 HT.out
        exact ⟨num_ret q1 q2 q3, by go_grown⟩

set_option maxHeartbeats 400000 in
theorem sGetNum_any (s : ByteArray) (p : Int) (n q c : Int) (w : World) (h1 : -9223372036854775808 ≤ p) (h2 : p ≤ 9223372036854775807) (hR : getN s p = (n, q, c)) :
    Calls Tryd.prog 5 #[.string s, .int .i64 p] w fun e w' => e = .returned (numOut n q c) ∧ Below w.heap.size w w' := by
  by_cases hs : 8000 < s.size
  · rw [getN_long hs] at hR
    obtain ⟨q1, q2, q3⟩ := parts3 hR
    have Q := Lib.hid (num_ret q1 q2 q3)
    clear hR q1 q2 q3
    go_enter Tryd.func5, Tryd.ntmps5
    go_wp2_with fail
    go_returns
    exact ⟨Q.out, by go_grown⟩
  by_cases hp : p < 0
  · rw [getN_neg hs hp] at hR
    obtain ⟨q1, q2, q3⟩ := parts3 hR
    have Q := Lib.hid (num_ret q1 q2 q3)
    clear hR q1 q2 q3
    go_enter Tryd.func5, Tryd.ntmps5
    go_wp2_with fail
    go_returns
    exact ⟨Q.out, by go_grown⟩
  · rw [getN_at hs hp] at hR
    obtain ⟨k, rfl⟩ := nat_of (n := p) (by omega)
    exact sGetNum_in s k n q c w hs (by omega) hR
end Go.Proofs.YtjoogeiciciddaaDoor
