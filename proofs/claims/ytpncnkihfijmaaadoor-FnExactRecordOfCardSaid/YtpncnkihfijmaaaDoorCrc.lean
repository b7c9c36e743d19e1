/-
  Crc, CrcMore: the walks.
-/
import Derived.Test.YtpncnkihfijmaaaDoorBase
import Derived.Test.YtpncnkihfijmaaaDoorTooLong
import Derived.Test.YtpncnkihfijmaaaDoorCrcLaw
namespace Go.Proofs.YtpncnkihfijmaaaDoor
open Go.ChangeShapes Go.WideShapes Go.ChangeAt Go.RowKit Go.ChangeMaps
set_option maxRecDepth 10000

theorem crc_test {r c : Nat} (hr : r < 4294967296) (hc : c < 256) (k : Nat) :
    (bits BinOp.and IntKind.u32 (bits BinOp.xor IntKind.u32 (↑(crcSide r c k)) (↑c / 2 ^ k % 4294967296)) 1 == 1) = decide (crcBits k (r ^^^ c) % 2 = 1) := by
  have hd : c / 2 ^ k ≤ c := Nat.div_le_self _ _
  have e : (((c : Nat) : Int) / 2 ^ k % 4294967296) = ((c / 2 ^ k : Nat) : Int) := by
    have e1 : ((c : Nat) : Int) / 2 ^ k = ((c / 2 ^ k : Nat) : Int) := by simp
    rw [e1]
    generalize c / 2 ^ k = d at *
    omega
  rw [e, u32_xor_nat _ _ (crcSide_lt hr hc k) (by omega), crcSide_odd]
  have h1 := u32_and_nat (crcBits k (r ^^^ c)) 1 (crcBits_lt (xor_lt hr (by omega)) k) (by omega)
  rw [show ((1 : Nat) : Int) = (1 : Int) from rfl] at h1
  rw [h1, nat_mask1, Bool.eq_iff_iff]
  simp
  omega

set_option maxHeartbeats 400000 in
theorem crcByte_any (r c : Nat) (hr : r < 4294967296) (hc : c < 256) (w : World) : Calls Tryd.prog 57 #[.int .u32 r, .int .u8 c] w fun e w' => e = .returned (.int .u32 (crcRound r c)) ∧ w = w' := by
  go_enter Tryd.func57, Tryd.ntmps57
  go_wp2
  go_loop [0, 5] (fun x i => ∃ k : Nat, k ≤ 8 ∧ i = .int .i64 k ∧ x = .int .u32 (crcSide r c k)) (fun _ i => 8 - (intOf i).toNat)
  case atStart => exact ⟨0, by omega, rfl, by rw [crcSide_zero]⟩
  case round =>
    obtain ⟨k, hk, rfl, rfl⟩ := hrel
    have hl := crcSide_lt hr hc k
    have ht := crc_test hr hc k
    have hsu := Lib.hid (crcSide_succ r c k)
    by_cases hlt : k < 8
    · by_cases ho : crcBits k (r ^^^ c) % 2 = 1
      · have ht' := ht.trans (decide_eq_true ho)
        rw [if_pos ho] at hsu
        clear ht
        go_wp2
        go_round
        case rel => exact ⟨k + 1, by omega, by go_num, val_int (by rw [hsu.out, ← u32_xor_nat _ _ (by omega) (by omega)]; rfl)⟩
        case measure => simp [intOf]; omega
      · have ht' := ht.trans (decide_eq_false ho)
        rw [if_neg ho] at hsu
        clear ht
        go_wp2
        go_round
        case rel => exact ⟨k + 1, by omega, by go_num, val_int (by rw [hsu.out]; rfl)⟩
        case measure => simp [intOf]; omega
    · obtain rfl : k = 8 := by omega
      clear ht hsu
      go_wp2
      go_ret
      exact ⟨ret_int (by rw [crcSide_eight hc]), rfl⟩

theorem crcTo_take (r : Nat) (s : ByteArray) (k : Nat) (h : k < s.size) : crcTo r (s.data.toList.take (k + 1)) = crcRound (crcTo r (s.data.toList.take k)) s[k].toNat := by
  rw [take_snoc s k h, crcTo_snoc]
theorem crcTo_all (r : Nat) (s : ByteArray) : crcTo r (s.data.toList.take s.size) = crcTo r s.data.toList := by
  rw [List.take_of_length_le (by simp)]

theorem crc_not (c : Nat) (hc : c < 4294967296) : bits BinOp.xor IntKind.u32 IntKind.u32.max ↑c = ((c ^^^ 4294967295 : Nat) : Int) := by
  have h := u32_xor_nat 4294967295 c (by omega) hc
  rw [Nat.xor_comm] at h
  exact h
theorem crc_not' (c : Nat) (hc : c < 4294967296) : bits BinOp.xor IntKind.u32 (↑c) 4294967295 = ((c ^^^ 4294967295 : Nat) : Int) := u32_xor_nat c 4294967295 hc (by omega)

theorem bit_test {x : Nat} (h : x < 4294967296) : (bits BinOp.and IntKind.u32 ↑x 1 == 1) = decide (x % 2 = 1) := by
  have h1 := u32_and_nat x 1 h (by omega)
  rw [show ((1 : Nat) : Int) = (1 : Int) from rfl] at h1
  rw [h1, nat_mask1, Bool.eq_iff_iff]
  simp
  omega
theorem crcOf_i64 {c : Nat} {l : List UInt8} (hc : c < 4294967296) : -9223372036854775808 ≤ ((crcOf c l : Nat) : Int) ∧ ((crcOf c l : Nat) : Int) ≤ 9223372036854775807 := by
  have := crcOf_lt (l := l) hc
  omega

set_option maxHeartbeats 400000 in
theorem iCrcMore_yes (c : Nat) (s : ByteArray) (w : World) (hs : s.size ≤ 8000) (hc : c < 4294967296) : Calls Tryd.prog 49 #[.int .i64 c, .string s] w fun e w' => e = .returned (.int .i64 (crcOf c s.data.toList)) ∧ w = w' := by
  have hx : c ^^^ 4294967295 < 4294967296 := xor_lt hc (by omega)
  go_enter Tryd.func49, Tryd.ntmps49
  go_wp2_with (go_at_call 37; refine (tooLong_any _ _).mono ?_; rintro e w' ⟨rfl, rfl⟩)
  go_loop [5, 6] (fun x i => ∃ k : Nat, k ≤ s.size ∧ i = .int .i64 k ∧ x = .int .u32 (crcTo (c ^^^ 4294967295) (s.data.toList.take k))) (fun _ i => s.size - (intOf i).toNat)
  case atStart => exact ⟨0, by omega, rfl, by rw [crc_not c hc]; rfl⟩
  case round =>
    obtain ⟨k, hk, rfl, rfl⟩ := hrel
    have hl := crcTo_lt (s.data.toList.take k) hx
    by_cases hlt : k < s.size
    · have HS := Lib.hid (crcTo_take (c ^^^ 4294967295) s k hlt)
      have hb := s[k].toNat_lt
      go_wp2_with (go_at_call 57; refine (crcByte_any _ _ hl hb _).mono ?_; rintro e w' ⟨rfl, rfl⟩)
      go_round
      case rel => exact ⟨k + 1, by omega, by go_num, by rw [HS.out]⟩
      case measure => simp [intOf]; omega
    · obtain rfl : k = s.size := by omega
      go_wp2
      go_ret
      refine ⟨ret_int ?_, rfl⟩
      show _ = ((crcOf c s.data.toList : Nat) : Int)
      rw [crc_not _ hl, crcTo_all]
      exact IntWalk.wrap64_in _ (crcOf_i64 hc)

set_option maxHeartbeats 400000 in
theorem l01Crc_yes (c : Nat) (s : ByteArray) (w : World) (hs : s.size ≤ 8000) (hc : c < 4294967296) : Calls Tryd.prog 47 #[.int .i64 c, .string s] w fun e w' => e = .returned (.int .i64 (crcOf c s.data.toList)) ∧ w = w' := by
  have hx : c ^^^ 4294967295 < 4294967296 := xor_lt hc (by omega)
  go_enter Tryd.func47, Tryd.ntmps47
  go_wp2
  go_loop [5, 6] (fun x i => ∃ k : Nat, k ≤ s.size ∧ i = .int .i64 k ∧ x = .int .u32 (crcTo (c ^^^ 4294967295) (s.data.toList.take k))) (fun _ i => s.size - (intOf i).toNat)
  case atStart => exact ⟨0, by omega, rfl, by rw [crc_not' c hc]; rfl⟩
  case round =>
    obtain ⟨k, hk, rfl, rfl⟩ := hrel
    have hl := crcTo_lt (s.data.toList.take k) hx
    by_cases hlt : k < s.size
    · have HS := Lib.hid (crcTo_take (c ^^^ 4294967295) s k hlt)
      have hb := s[k].toNat_lt
      generalize hR : crcTo (c ^^^ 4294967295) (s.data.toList.take k) = R at *
      have HR := Lib.hid hR
      clear hR
      have hRc : R ^^^ s[k].toNat < 4294967296 := xor_lt hl (by omega)
      go_wp2
      go_loop [5, 7] (fun x i => ∃ j : Nat, j ≤ 8 ∧ i = .int .i64 j ∧ x = .int .u32 (crcBits j (R ^^^ s[k].toNat))) (fun _ i => 8 - (intOf i).toNat)
      case atStart => exact ⟨0, by omega, rfl, by rw [u32_xor_nat _ _ hl (by omega)]; rfl⟩
      case round =>
        obtain ⟨j, hj, rfl, rfl⟩ := hrel
        have hlj := crcBits_lt hRc j
        have ht := bit_test hlj
        have hu : crcBits (j + 1) (R ^^^ s[k].toNat) = crcBit (crcBits j (R ^^^ s[k].toNat)) := rfl
        generalize hX : crcBits j (R ^^^ s[k].toNat) = X at *
        have HX := Lib.hid hX
        have HU := Lib.hid hu
        clear hX hu
        by_cases hlt8 : j < 8
        · by_cases ho : X % 2 = 1
          · have ht' := ht.trans (decide_eq_true ho)
            have HO := Lib.hid ho
            clear ht ho
            go_wp2
            go_round
            case rel => exact ⟨j + 1, by omega, by go_num, val_int (by rw [HU.out, crcBit, if_pos HO.out, ← u32_xor_nat _ _ (by omega) (by omega)]; rfl)⟩
            case measure => simp [intOf]; omega
          · have ht' := ht.trans (decide_eq_false ho)
            have HO := Lib.hid ho
            clear ht ho
            go_wp2
            go_round
            case rel => exact ⟨j + 1, by omega, by go_num, val_int (by rw [HU.out, crcBit, if_neg HO.out]; rfl)⟩
            case measure => simp [intOf]; omega
        · obtain rfl : j = 8 := by omega
          clear ht
          go_wp2
          go_round
          case rel => exact ⟨k + 1, by omega, by go_num, by rw [HS.out, crcRound, HX.out]⟩
          case measure => simp [intOf]; omega
    · obtain rfl : k = s.size := by omega
      go_wp2
      go_ret
      refine ⟨ret_int ?_, rfl⟩
      show _ = ((crcOf c s.data.toList : Nat) : Int)
      rw [crc_not' _ hl, crcTo_all]
      exact IntWalk.wrap64_in _ (crcOf_i64 hc)



set_option maxHeartbeats 400000 in
theorem iCrcMore_long (n : Int) (s : ByteArray) (w : World) (hs : 8000 < s.size) : Calls Tryd.prog 49 #[.int .i64 n, .string s] w fun e w' => e = .returned (.int .i64 0) ∧ w = w' := by
  go_enter Tryd.func49, Tryd.ntmps49
  go_wp2_with (go_at_call 37; refine (tooLong_any _ _).mono ?_; rintro e w' ⟨rfl, rfl⟩)
  go_ret
  exact ⟨rfl, rfl⟩
set_option maxHeartbeats 400000 in
theorem iCrcMore_out (n : Int) (s : ByteArray) (w : World) (hs : s.size ≤ 8000) (hn : n < 0 ∨ 4294967295 < n) : Calls Tryd.prog 49 #[.int .i64 n, .string s] w fun e w' => e = .returned (.int .i64 0) ∧ w = w' := by
  rcases hn with hn | hn
  · go_enter Tryd.func49, Tryd.ntmps49
    go_wp2_with (go_at_call 37; refine (tooLong_any _ _).mono ?_; rintro e w' ⟨rfl, rfl⟩)
    go_ret
    exact ⟨rfl, rfl⟩
  · have hn0 : 0 ≤ n := by omega
    go_enter Tryd.func49, Tryd.ntmps49
    go_wp2_with (go_at_call 37; refine (tooLong_any _ _).mono ?_; rintro e w' ⟨rfl, rfl⟩)
    go_ret
    exact ⟨rfl, rfl⟩

/-- What CrcMore answers. -/
def crcMoreI (n : Int) (s : ByteArray) : Int := if 8000 < s.size ∨ n < 0 ∨ 4294967295 < n then 0 else crcOf n.toNat s.data.toList
theorem iCrcMore_any (n : Int) (s : ByteArray) (w : World) : Calls Tryd.prog 49 #[.int .i64 n, .string s] w fun e w' => e = .returned (.int .i64 (crcMoreI n s)) ∧ w = w' := by
  by_cases h1 : 8000 < s.size
  · rw [crcMoreI, if_pos (.inl h1)]
    exact iCrcMore_long n s w h1
  by_cases h2 : n < 0 ∨ 4294967295 < n
  · rw [crcMoreI, if_pos (.inr h2)]
    exact iCrcMore_out n s w (by omega) h2
  obtain ⟨c, rfl⟩ := nat_of (n := n) (by omega)
  rw [crcMoreI, if_neg (by omega)]
  exact iCrcMore_yes c s w (by omega) (by omega)

set_option maxHeartbeats 400000 in
theorem iCrc_any (s : ByteArray) (w : World) : Calls Tryd.prog 41 #[.string s] w fun e w' => e = .returned (.int .i64 (crcMoreI 0 s)) ∧ w = w' := by
  go_enter Tryd.func41, Tryd.ntmps41
  go_wp2_with (go_at_call 49; refine (iCrcMore_any _ _ _).mono ?_; rintro e w' ⟨rfl, rfl⟩)
  go_ret
  exact ⟨rfl, rfl⟩

end Go.Proofs.YtpncnkihfijmaaaDoor
