/-
  Crc, CrcMore: the walks.
-/
import Derived.Test.YtjoogeiciciddaaLift
import Derived.Test.YtjoogeiciciddaaCrcLaw
import Derived.Lib.Hide
namespace Go.Proofs.Ytjoogeiciciddaa
open Go.ChangeShapes Go.WideShapes Go.ChangeAt Go.RowKit Go.ChangeMaps

theorem crc_test {r c : Nat} (hr : r < 4294967296) (hc : c < 256) (k : Nat) :
    (bits BinOp.and IntKind.u32 (bits BinOp.xor IntKind.u32 (↑(crcSide r c k)) (↑c / 2 ^ k % 4294967296)) 1 == 1) = decide (crcBits k (r ^^^ c) % 2 = 1) := by
  have hd : c / 2 ^ k ≤ c := Nat.div_le_self _ _
  have e : (((c : Nat) : Int) / 2 ^ k % 4294967296) = ((c / 2 ^ k : Nat) : Int) := by
    have e1 : ((c : Nat) : Int) / 2 ^ k = ((c / 2 ^ k : Nat) : Int) := by simp
    rw [e1]
    generalize c / 2 ^ k = d at *
    omega
  rw [e, u32_xor_nat _ _ (crcSide_lt hr hc k) (by omega), crcSide_odd]
  have h1 := u32_and_nat (crcBits k (r ^^^ c)) 1 (crcBits_lt (xor_lt hr (by omega)) k) (by omega)
  rw [show ((1 : Nat) : Int) = (1 : Int) from rfl] at h1
  rw [h1, nat_mask1, Bool.eq_iff_iff]
  simp
  omega
theorem ret_int {k : IntKind} {a b : Int} (h : a = b) : Ending.returned (.int k a) = .returned (.int k b) := by rw [h]
theorem val_int {k : IntKind} {a b : Int} (h : a = b) : Value.int k a = .int k b := by rw [h]

set_option maxHeartbeats 400000 in
theorem crcByte_any (r c : Nat) (hr : r < 4294967296) (hc : c < 256) (w : World) : Calls Try.prog 32 #[.int .u32 r, .int .u8 c] w fun e w' => e = .returned (.int .u32 (crcRound r c)) ∧ w = w' := by
  go_enter Try.func32, Try.ntmps32
  go_wp2
  go_loop [0, 5] (fun x i => ∃ k : Nat, k ≤ 8 ∧ i = .int .i64 k ∧ x = .int .u32 (crcSide r c k)) (fun _ i => 8 - (intOf i).toNat)
  case atStart => exact ⟨0, by omega, rfl, by rw [crcSide_zero]⟩
  case round =>
    obtain ⟨k, hk, rfl, rfl⟩ := hrel
    have hl := crcSide_lt hr hc k
    have ht := crc_test hr hc k
    have hsu := Lib.hid (crcSide_succ r c k)
    by_cases hlt : k < 8
    · by_cases ho : crcBits k (r ^^^ c) % 2 = 1
      · have ht' := ht.trans (decide_eq_true ho)
        rw [if_pos ho] at hsu
        clear ht
        go_wp2
        go_round
        case rel => exact ⟨k + 1, by omega, by go_num, val_int (by rw [hsu.out, ← u32_xor_nat _ _ (by omega) (by omega)]; rfl)⟩
        case measure => simp [intOf]; omega
      · have ht' := ht.trans (decide_eq_false ho)
        rw [if_neg ho] at hsu
        clear ht
        go_wp2
        go_round
        case rel => exact ⟨k + 1, by omega, by go_num, val_int (by rw [hsu.out]; rfl)⟩
        case measure => simp [intOf]; omega
    · obtain rfl : k = 8 := by omega
      clear ht hsu
      go_wp2
      go_ret
      exact ⟨ret_int (by rw [crcSide_eight hc]), rfl⟩

theorem take_snoc (s : ByteArray) (k : Nat) (h : k < s.size) : s.data.toList.take (k + 1) = s.data.toList.take k ++ [s[k]] := by
  rw [List.take_succ_eq_append_getElem (by simpa using h)]; rfl
theorem crcTo_take (r : Nat) (s : ByteArray) (k : Nat) (h : k < s.size) : crcTo r (s.data.toList.take (k + 1)) = crcRound (crcTo r (s.data.toList.take k)) s[k].toNat := by
  rw [take_snoc s k h, crcTo_snoc]
theorem crcTo_all (r : Nat) (s : ByteArray) : crcTo r (s.data.toList.take s.size) = crcTo r s.data.toList := by
  rw [List.take_of_length_le (by simp)]

set_option maxHeartbeats 400000 in
theorem tooLong_any (s : ByteArray) (w : World) : Calls Try.prog 27 #[.string s] w fun e w' => e = .returned (.bool (decide (8000 < (s.size : Int)))) ∧ w = w' := by
  go_enter Try.func27, Try.ntmps27
  go_wp2
  go_ret
  exact ⟨rfl, rfl⟩

theorem crc_not (c : Nat) (hc : c < 4294967296) : bits BinOp.xor IntKind.u32 IntKind.u32.max ↑c = ((c ^^^ 4294967295 : Nat) : Int) := by
  have h := u32_xor_nat 4294967295 c (by omega) hc
  rw [Nat.xor_comm] at h
  exact h
theorem crc_not' (c : Nat) (hc : c < 4294967296) : bits BinOp.xor IntKind.u32 (↑c) 4294967295 = ((c ^^^ 4294967295 : Nat) : Int) := u32_xor_nat c 4294967295 hc (by omega)

theorem bit_test {x : Nat} (h : x < 4294967296) : (bits BinOp.and IntKind.u32 ↑x 1 == 1) = decide (x % 2 = 1) := by
  have h1 := u32_and_nat x 1 h (by omega)
  rw [show ((1 : Nat) : Int) = (1 : Int) from rfl] at h1
  rw [h1, nat_mask1, Bool.eq_iff_iff]
  simp
  omega
theorem crcOf_i64 {c : Nat} {l : List UInt8} (hc : c < 4294967296) : -9223372036854775808 ≤ ((crcOf c l : Nat) : Int) ∧ ((crcOf c l : Nat) : Int) ≤ 9223372036854775807 := by
  have := crcOf_lt (l := l) hc
  omega

set_option maxHeartbeats 400000 in
theorem iCrcMore_yes (c : Nat) (s : ByteArray) (w : World) (hs : s.size ≤ 8000) (hc : c < 4294967296) : Calls Try.prog 19 #[.int .i64 c, .string s] w fun e w' => e = .returned (.int .i64 (crcOf c s.data.toList)) ∧ w = w' := by
  have hx : c ^^^ 4294967295 < 4294967296 := xor_lt hc (by omega)
  go_enter Try.func19, Try.ntmps19
  go_wp2_with (go_at_call 27; refine (tooLong_any _ _).mono ?_; rintro e w' ⟨rfl, rfl⟩)
  go_loop [5, 6] (fun x i => ∃ k : Nat, k ≤ s.size ∧ i = .int .i64 k ∧ x = .int .u32 (crcTo (c ^^^ 4294967295) (s.data.toList.take k))) (fun _ i => s.size - (intOf i).toNat)
  case atStart => exact ⟨0, by omega, rfl, by rw [crc_not c hc]; rfl⟩
  case round =>
    obtain ⟨k, hk, rfl, rfl⟩ := hrel
    have hl := crcTo_lt (s.data.toList.take k) hx
    by_cases hlt : k < s.size
    · have HS := Lib.hid (crcTo_take (c ^^^ 4294967295) s k hlt)
      have hb := s[k].toNat_lt
      go_wp2_with (go_at_call 32; refine (crcByte_any _ _ hl hb _).mono ?_; rintro e w' ⟨rfl, rfl⟩)
      go_round
      case rel => exact ⟨k + 1, by omega, by go_num, by rw [HS.out]⟩
      case measure => simp [intOf]; omega
    · obtain rfl : k = s.size := by omega
      go_wp2
      go_ret
      refine ⟨ret_int ?_, rfl⟩
      show _ = ((crcOf c s.data.toList : Nat) : Int)
      rw [crc_not _ hl, crcTo_all]
      exact IntWalk.wrap64_in _ (crcOf_i64 hc)

set_option maxHeartbeats 400000 in
theorem l01Crc_yes (c : Nat) (s : ByteArray) (w : World) (hs : s.size ≤ 8000) (hc : c < 4294967296) : Calls Try.prog 31 #[.int .i64 c, .string s] w fun e w' => e = .returned (.int .i64 (crcOf c s.data.toList)) ∧ w = w' := by
  have hx : c ^^^ 4294967295 < 4294967296 := xor_lt hc (by omega)
  go_enter Try.func31, Try.ntmps31
  go_wp2
  go_loop [5, 6] (fun x i => ∃ k : Nat, k ≤ s.size ∧ i = .int .i64 k ∧ x = .int .u32 (crcTo (c ^^^ 4294967295) (s.data.toList.take k))) (fun _ i => s.size - (intOf i).toNat)
  case atStart => exact ⟨0, by omega, rfl, by rw [crc_not' c hc]; rfl⟩
  case round =>
    obtain ⟨k, hk, rfl, rfl⟩ := hrel
    have hl := crcTo_lt (s.data.toList.take k) hx
    by_cases hlt : k < s.size
    · have HS := Lib.hid (crcTo_take (c ^^^ 4294967295) s k hlt)
      have hb := s[k].toNat_lt
      generalize hR : crcTo (c ^^^ 4294967295) (s.data.toList.take k) = R at *
      have HR := Lib.hid hR
      clear hR
      have hRc : R ^^^ s[k].toNat < 4294967296 := xor_lt hl (by omega)
      go_wp2
      go_loop [5, 7] (fun x i => ∃ j : Nat, j ≤ 8 ∧ i = .int .i64 j ∧ x = .int .u32 (crcBits j (R ^^^ s[k].toNat))) (fun _ i => 8 - (intOf i).toNat)
      case atStart => exact ⟨0, by omega, rfl, by rw [u32_xor_nat _ _ hl (by omega)]; rfl⟩
      case round =>
        obtain ⟨j, hj, rfl, rfl⟩ := hrel
        have hlj := crcBits_lt hRc j
        have ht := bit_test hlj
        have hu : crcBits (j + 1) (R ^^^ s[k].toNat) = crcBit (crcBits j (R ^^^ s[k].toNat)) := rfl
        generalize hX : crcBits j (R ^^^ s[k].toNat) = X at *
        have HX := Lib.hid hX
        have HU := Lib.hid hu
        clear hX hu
        by_cases hlt8 : j < 8
        · by_cases ho : X % 2 = 1
          · have ht' := ht.trans (decide_eq_true ho)
            have HO := Lib.hid ho
            clear ht ho
            go_wp2
            go_round
            case rel => exact ⟨j + 1, by omega, by go_num, val_int (by rw [HU.out, crcBit, if_pos HO.out, ← u32_xor_nat _ _ (by omega) (by omega)]; rfl)⟩
            case measure => simp [intOf]; omega
          · have ht' := ht.trans (decide_eq_false ho)
            have HO := Lib.hid ho
            clear ht ho
            go_wp2
            go_round
            case rel => exact ⟨j + 1, by omega, by go_num, val_int (by rw [HU.out, crcBit, if_neg HO.out]; rfl)⟩
            case measure => simp [intOf]; omega
        · obtain rfl : j = 8 := by omega
          clear ht
          go_wp2
          go_round
          case rel => exact ⟨k + 1, by omega, by go_num, by rw [HS.out, crcRound, HX.out]⟩
          case measure => simp [intOf]; omega
    · obtain rfl : k = s.size := by omega
      go_wp2
      go_ret
      refine ⟨ret_int ?_, rfl⟩
      show _ = ((crcOf c s.data.toList : Nat) : Int)
      rw [crc_not' _ hl, crcTo_all]
      exact IntWalk.wrap64_in _ (crcOf_i64 hc)


theorem nat_of {n : Int} (h : 0 ≤ n) : ∃ k : Nat, n = k := ⟨n.toNat, by omega⟩

set_option maxHeartbeats 400000 in
theorem iCrcMore_long (n : Int) (s : ByteArray) (w : World) (hs : 8000 < s.size) : Calls Try.prog 19 #[.int .i64 n, .string s] w fun e w' => e = .returned (.int .i64 0) ∧ w = w' := by
  go_enter Try.func19, Try.ntmps19
  go_wp2_with (go_at_call 27; refine (tooLong_any _ _).mono ?_; rintro e w' ⟨rfl, rfl⟩)
  go_ret
  exact ⟨rfl, rfl⟩
set_option maxHeartbeats 400000 in
theorem iCrcMore_out (n : Int) (s : ByteArray) (w : World) (hs : s.size ≤ 8000) (hn : n < 0 ∨ 4294967295 < n) : Calls Try.prog 19 #[.int .i64 n, .string s] w fun e w' => e = .returned (.int .i64 0) ∧ w = w' := by
  rcases hn with hn | hn
  · go_enter Try.func19, Try.ntmps19
    go_wp2_with (go_at_call 27; refine (tooLong_any _ _).mono ?_; rintro e w' ⟨rfl, rfl⟩)
    go_ret
    exact ⟨rfl, rfl⟩
  · have hn0 : 0 ≤ n := by omega
    go_enter Try.func19, Try.ntmps19
    go_wp2_with (go_at_call 27; refine (tooLong_any _ _).mono ?_; rintro e w' ⟨rfl, rfl⟩)
    go_ret
    exact ⟨rfl, rfl⟩

/-- What CrcMore answers. -/
def crcMoreI (n : Int) (s : ByteArray) : Int := if 8000 < s.size ∨ n < 0 ∨ 4294967295 < n then 0 else crcOf n.toNat s.data.toList
theorem iCrcMore_any (n : Int) (s : ByteArray) (w : World) : Calls Try.prog 19 #[.int .i64 n, .string s] w fun e w' => e = .returned (.int .i64 (crcMoreI n s)) ∧ w = w' := by
  by_cases h1 : 8000 < s.size
  · rw [crcMoreI, if_pos (.inl h1)]
    exact iCrcMore_long n s w h1
  by_cases h2 : n < 0 ∨ 4294967295 < n
  · rw [crcMoreI, if_pos (.inr h2)]
    exact iCrcMore_out n s w (by omega) h2
  obtain ⟨c, rfl⟩ := nat_of (n := n) (by omega)
  rw [crcMoreI, if_neg (by omega)]
  exact iCrcMore_yes c s w (by omega) (by omega)

set_option maxHeartbeats 400000 in
theorem sCrcMore_any (n : Int) (s : ByteArray) (w : World) : Calls Try.prog 18 #[.int .i64 n, .string s] w fun e w' => e = .returned (.int .i64 (crcMoreI n s)) ∧ w = w' := by
  by_cases h1 : 8000 < s.size
  · rw [crcMoreI, if_pos (.inl h1)]
    go_enter Try.func18, Try.ntmps18
    go_wp2
    go_ret
    exact ⟨rfl, rfl⟩
  by_cases h2 : n < 0
  · rw [crcMoreI, if_pos (by omega)]
    go_enter Try.func18, Try.ntmps18
    go_wp2
    go_ret
    exact ⟨rfl, rfl⟩
  by_cases h3 : 4294967295 < n
  · rw [crcMoreI, if_pos (by omega)]
    go_enter Try.func18, Try.ntmps18
    go_wp2
    go_ret
    exact ⟨rfl, rfl⟩
  obtain ⟨c, rfl⟩ := nat_of (n := n) (by omega)
  rw [crcMoreI, if_neg (by omega)]
  go_enter Try.func18, Try.ntmps18
  go_wp2_with (go_at_call 31; refine (l01Crc_yes c s _ (by omega) (by omega)).mono ?_; rintro e w' ⟨rfl, rfl⟩)
  go_ret
  exact ⟨rfl, rfl⟩

set_option maxHeartbeats 400000 in
theorem iCrc_any (s : ByteArray) (w : World) : Calls Try.prog 17 #[.string s] w fun e w' => e = .returned (.int .i64 (crcMoreI 0 s)) ∧ w = w' := by
  go_enter Try.func17, Try.ntmps17
  go_wp2_with (go_at_call 19; refine (iCrcMore_any _ _ _).mono ?_; rintro e w' ⟨rfl, rfl⟩)
  go_ret
  exact ⟨rfl, rfl⟩

set_option maxHeartbeats 400000 in
theorem sCrc_any (s : ByteArray) (w : World) : Calls Try.prog 16 #[.string s] w fun e w' => e = .returned (.int .i64 (crcMoreI 0 s)) ∧ w = w' := by
  by_cases h1 : 8000 < s.size
  · rw [crcMoreI, if_pos (.inl h1)]
    go_enter Try.func16, Try.ntmps16
    go_wp2
    go_ret
    exact ⟨rfl, rfl⟩
  rw [crcMoreI, if_neg (by omega)]
  go_enter Try.func16, Try.ntmps16
  go_wp2_with (go_at_call 31; refine (l01Crc_yes 0 s _ (by omega) (by omega)).mono ?_; rintro e w' ⟨rfl, rfl⟩)
  go_ret
  exact ⟨rfl, rfl⟩

set_option maxHeartbeats 400000 in
theorem crc_walk (s : ByteArray) (w : World) (hs : s.size ≤ maxLen) : Calls Try.prog 6 #[.string s] w fun e w' => Holds e w w' := by
  unfold maxLen at hs
  by_cases h1 : 1048576 < s.size
  · go_enter Try.func6, Try.ntmps6
    go_wp2
    go_ret
    exact ⟨rfl, Below.refl _ _⟩
  · go_enter Try.func6, Try.ntmps6
    go_wp2_with (first
          | (go_at_call 16; refine (sCrc_any _ _).mono ?_; rintro e w' ⟨rfl, rfl⟩)
          | (go_at_call 17; refine (iCrc_any _ _).mono ?_; rintro e w' ⟨rfl, rfl⟩))
    go_ret
    exact ⟨rfl, Below.refl _ _⟩

set_option maxHeartbeats 400000 in
theorem crcMore_walk (n : Int) (s : ByteArray) (w : World) (hs : s.size ≤ maxLen) : Calls Try.prog 7 #[.int .i64 n, .string s] w fun e w' => Holds e w w' := by
  unfold maxLen at hs
  by_cases h1 : 1048576 < s.size
  · go_enter Try.func7, Try.ntmps7
    go_wp2
    go_ret
    exact ⟨rfl, Below.refl _ _⟩
  · go_enter Try.func7, Try.ntmps7
    go_wp2_with (first
          | (go_at_call 18; refine (sCrcMore_any _ _ _).mono ?_; rintro e w' ⟨rfl, rfl⟩)
          | (go_at_call 19; refine (iCrcMore_any _ _ _).mono ?_; rintro e w' ⟨rfl, rfl⟩))
    go_ret
    exact ⟨rfl, Below.refl _ _⟩

end Go.Proofs.Ytjoogeiciciddaa
