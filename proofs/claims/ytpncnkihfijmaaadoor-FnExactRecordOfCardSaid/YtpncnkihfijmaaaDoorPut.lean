/-
  PutNum, PutText: the walks.
-/
import Derived.Test.YtpncnkihfijmaaaDoorJoined
import Derived.Test.YtpncnkihfijmaaaDoorPutLaw
import Derived.Test.YtpncnkihfijmaaaDoorCrc
namespace Go.Proofs.YtpncnkihfijmaaaDoor
open Go.ChangeShapes Go.WideShapes Go.ChangeAt Go.RowKit Go.ChangeMaps
set_option maxRecDepth 10000
set_option linter.unusedSimpArgs false
set_option linter.unusedVariables false


theorem not64 (x : Nat) (h : x < 18446744073709551616) : 18446744073709551615 ^^^ x = 18446744073709551615 - x := by
  have h1 := BitVec.toNat_not (x := BitVec.ofNat 64 x)
  rw [BitVec.not_def, BitVec.toNat_xor, BitVec.toNat_allOnes, BitVec.toNat_ofNat, Nat.mod_eq_of_lt h] at h1
  exact h1
theorem fold_not {n : Int} (h1 : -9223372036854775808 ≤ n) (h : n < 0) : bits BinOp.xor IntKind.u64 IntKind.u64.max (IntKind.u64.wrap (IntKind.u64.wrap n * 2)) = (foldI n : Int) := by
  have e : IntKind.u64.wrap (IntKind.u64.wrap n * 2) = ((2 * n + 18446744073709551616).toNat : Int) := by
    rw [IntKind.wrap_u64, IntKind.wrap_u64]; omega
  rw [e]
  have hx := u64_xor_nat 18446744073709551615 (2 * n + 18446744073709551616).toNat (by omega) (by omega)
  refine Eq.trans hx ?_
  rw [not64 _ (by omega), foldI, if_pos h]
  omega
theorem foldI_pos {n : Int} (h : 0 ≤ n) : (foldI n : Int) = 2 * n := by rw [foldI, if_neg (by omega)]; omega
theorem foldI_neg {n : Int} (h : n < 0) : (foldI n : Int) = 2 * -(n + 1) + 1 := by rw [foldI, if_pos h]; omega

set_option maxHeartbeats 400000 in
theorem foldSign_any (n : Int) (w : World) (h1 : -9223372036854775808 ≤ n) (h2 : n ≤ 9223372036854775807) : Calls Tryd.prog 48 #[.int .i64 n] w fun e w' => e = .returned (.int .u64 (foldI n)) ∧ w = w' := by
  by_cases h : n < 0
  · go_enter Tryd.func48, Tryd.ntmps48
    go_wp2
    go_ret
    exact ⟨ret_int (fold_not h1 (by assumption)), rfl⟩
  · have h0 : 0 ≤ n := by omega
    go_enter Tryd.func48, Tryd.ntmps48
    go_wp2
    go_ret
    exact ⟨ret_int (by rw [foldI_pos h0, Int.mul_comm]), rfl⟩

set_option maxHeartbeats 400000 in
theorem l01Fold_any (n : Int) (w : World) (h1 : -9223372036854775808 ≤ n) (h2 : n ≤ 9223372036854775807) : Calls Tryd.prog 56 #[.int .i64 n] w fun e w' => e = .returned (.int .u64 (foldI n)) ∧ w = w' := by
  by_cases h : n < 0
  · go_enter Tryd.func56, Tryd.ntmps56
    go_wp2
    go_ret
    exact ⟨ret_int (by rw [foldI_neg h]), rfl⟩
  · have h0 : 0 ≤ n := by omega
    go_enter Tryd.func56, Tryd.ntmps56
    go_wp2
    go_ret
    exact ⟨ret_int (by rw [foldI_pos h0]), rfl⟩

theorem or128 (u : Nat) : bits BinOp.or IntKind.u8 (↑u % 256) 128 = ↑(UInt8.ofNat (u % 128 + 128)).toNat := by
  have h := u8_or_nat (u % 256) 128 (Nat.mod_lt _ (by decide)) (by decide)
  have e : ∀ x : Nat, x < 256 → x ||| 128 = x % 128 + 128 := by decide +kernel
  rw [e _ (Nat.mod_lt _ (by decide))] at h
  rw [ofNat_toNat (by omega)]
  refine Eq.trans h ?_
  omega
def U64 (u : Nat) : Prop := u < 18446744073709551616
theorem wrapQ {u : Nat} (h : U64 u) : IntKind.u64.wrap (↑u / 128) = ((u / 128 : Nat) : Int) := by
  unfold U64 at h
  rw [IntKind.wrap_u64]
  omega

set_option maxHeartbeats 1000000 in
set_option maxRecDepth 100000 in
theorem iPutNum_any (n : Int) (w : World) (h1 : -9223372036854775808 ≤ n) (h2 : n ≤ 9223372036854775807) : Calls Tryd.prog 39 #[.int .i64 n] w fun e w' => e = .returned (.string ⟨(putI n).toArray⟩) ∧ Below w.heap.size w w' := by
  have hlt : U64 (foldI n) := foldI_lt h1 h2
  have hten := Lib.hid (putI_ten h1 h2)
  go_enter Tryd.func39, Tryd.ntmps39
  go_wp2_with (go_at_call 48; refine (foldSign_any _ _ h1 h2).mono ?_; rintro e w' ⟨rfl, rfl⟩)
  go_loopw [3, 4] (fun v x wr => ∃ (l : List UInt8) (u : Nat), x = .int .u64 u ∧ OwnB wr w.heap.size 5 v l ∧ Hid (l ++ putU u = putI n) ∧ Below w.heap.size w wr ∧ U64 u) (fun _ x _ => (intOf x).toNat)
  case atStart => exact ⟨[], _, rfl, OwnB.nil_ _ _ _, rfl, Below.refl _ _, hlt⟩
  case round =>
    obtain ⟨l, u, rfl, hown, hl, hbel, hu⟩ := hrel
    have hlen : l.length ≤ 10 := by
      have h3 := hten.out
      rw [← hl.out, List.length_append] at h3
      omega
    have hsz := hbel.size
    clear h1 h2 hten hlt
    by_cases hlo : u < 128
    · go_wp2_with (first
        | (refine wpList_append_fresh Tryd.underlying54 info_u8 w.heap.size _ l rfl hown (UInt8.ofNat u) ?_ rfl (by omega) hsz ?_; rotate_left; intro v1 w1 hown1 hbel1)
        | (refine wpList_str_own Tryd.underlying54 Tryd.underlying5 Tryd.underlying9 w.heap.size _ _ rfl hown1 ?_))
      · go_ret
        refine ⟨?_, hbel.trans (hbel1.mono (Nat.le_refl _))⟩
        rw [← hl.out, putU_low hlo]
        rfl
      · rw [ofNat_toNat (by omega)]
    · have hh := putU_high hlo
      have HH := Lib.hid hh
      clear hh
      go_wp2_with (first
        | (refine wpList_append_fresh Tryd.underlying54 info_u8 w.heap.size _ l rfl hown (UInt8.ofNat (u % 128 + 128)) ?_ rfl (by omega) hsz ?_; rotate_left; intro v1 w1 hown1 hbel1))
      · go_roundw
        case rel => exact ⟨_, u / 128, val_int (by simp), hown1, by rw [List.append_assoc]; rw [← hl.out, HH.out]; rfl, hbel.trans hbel1, Nat.lt_of_le_of_lt (Nat.div_le_self _ _) hu⟩
        case measure => simp [intOf]; omega
      · exact or128 u

set_option maxRecDepth 4000 in
set_option maxHeartbeats 400000 in
theorem sPutNum_any (n : Int) (w : World) (h1 : -9223372036854775808 ≤ n) (h2 : n ≤ 9223372036854775807) : Calls Tryd.prog 45 #[.int .i64 n] w fun e w' => e = .returned (.string ⟨(putI n).toArray⟩) ∧ Below w.heap.size w w' := by
  have hlt : U64 (foldI n) := foldI_lt h1 h2
  have hten := Lib.hid (putI_ten h1 h2)
  go_enter Tryd.func45, Tryd.ntmps45
  go_wp2_with (go_at_call 56; refine (l01Fold_any _ _ h1 h2).mono ?_; rintro e w' ⟨rfl, rfl⟩)
  go_loopw [4, 3] (fun v x wr => ∃ (l : List UInt8) (u : Nat), x = .int .u64 u ∧ OwnB wr w.heap.size 5 v l ∧ Hid (l ++ putU u = putI n) ∧ Below w.heap.size w wr ∧ U64 u) (fun _ x _ => (intOf x).toNat)
  case atStart => exact ⟨[], _, rfl, OwnB.empty_ _ _ (Nat.le_refl _), rfl, (Below.refl _ _).alloc (Nat.le_refl _) _, hlt⟩
  case round =>
    obtain ⟨l, u, rfl, hown, hl, hbel, hu⟩ := hrel
    have hlen : l.length ≤ 10 := by
      have h3 := hten.out
      rw [← hl.out, List.length_append] at h3
      omega
    have hsz := hbel.size
    clear h1 h2 hten hlt
    by_cases hlo : u < 128
    · go_wp2_with (first
        | (refine wpList_append_fresh Tryd.underlying54 info_u8 w.heap.size _ l rfl hown (UInt8.ofNat u) ?_ rfl (by omega) hsz ?_; rotate_left; intro v1 w1 hown1 hbel1)
        | (refine wpList_str_own Tryd.underlying54 Tryd.underlying5 Tryd.underlying9 w.heap.size _ _ rfl hown1 ?_))
      · go_ret
        refine ⟨?_, hbel.trans (hbel1.mono (Nat.le_refl _))⟩
        rw [← hl.out, putU_low hlo]
        rfl
      · rw [ofNat_toNat (by omega)]
    · have hh := putU_high hlo
      have HH := Lib.hid hh
      clear hh
      go_wp2_with (first
        | (refine wpList_append_fresh Tryd.underlying54 info_u8 w.heap.size _ l rfl hown (UInt8.ofNat (u % 128 + 128)) ?_ rfl (by omega) hsz ?_; rotate_left; intro v1 w1 hown1 hbel1))
      · go_roundw
        case rel => exact ⟨_, u / 128, val_int (wrapQ hu), hown1, by rw [List.append_assoc]; rw [← hl.out, HH.out]; rfl, hbel.trans hbel1, Nat.lt_of_le_of_lt (Nat.div_le_self _ _) hu⟩
        case measure => simp only [intOf, wrapQ hu]; omega
      · rw [ofNat_toNat (by omega)]; omega

/-- What PutText answers. -/
def putTextL (s : ByteArray) : List UInt8 := if 8000 < s.size then [] else putI s.size ++ s.data.toList
def putTextS (s : ByteArray) : ByteArray := ⟨(putTextL s).toArray⟩

set_option maxHeartbeats 400000 in
theorem iPutText_any (s : ByteArray) (w : World) (hs : s.size ≤ 1048576) : Calls Tryd.prog 19 #[.string s] w fun e w' => e = .returned (.string (putTextS s)) ∧ Below w.heap.size w w' := by
  by_cases h : 8000 < s.size
  · go_enter Tryd.func19, Tryd.ntmps19
    go_wp2_with (go_at_call 37; refine (tooLong_any _ _).mono ?_; rintro e w1 ⟨rfl, rfl⟩)
    go_ret
    refine ⟨?_, Below.refl _ _⟩
    rw [putTextS, putTextL, if_pos h]
    rfl
  · go_enter Tryd.func19, Tryd.ntmps19
    go_wp2_with (first
      | (go_at_call 37; refine (tooLong_any _ _).mono ?_; rintro e w1 ⟨rfl, rfl⟩)
      | (go_at_call 39; refine (iPutNum_any _ _ (by omega) (by omega)).mono ?_; rintro e w1 ⟨rfl, hb1⟩))
    refine (joined_two _ _ _ _ ?_).mono ?_
    · have h3 := putI_ten (n := s.size) (by omega) (by omega)
      rw [bsize]
      omega
    rintro e w2 ⟨rfl, hb2⟩
    go_wp2
    go_ret
    refine ⟨?_, hb1.trans (hb2.mono hb1.size)⟩
    rw [putTextS, putTextL, if_neg h]
    rfl

set_option maxHeartbeats 400000 in
theorem sPutText_any (s : ByteArray) (w : World) (hs : s.size ≤ 1048576) : Calls Tryd.prog 35 #[.string s] w fun e w' => e = .returned (.string (putTextS s)) ∧ Below w.heap.size w w' := by
  by_cases h : 8000 < s.size
  · go_enter Tryd.func35, Tryd.ntmps35
    go_wp2
    go_ret
    refine ⟨?_, Below.refl _ _⟩
    rw [putTextS, putTextL, if_pos h]
    rfl
  · have hp := putI_ten (n := s.size) (by omega) (by omega)
    go_enter Tryd.func35, Tryd.ntmps35
    go_wp2_with (go_at_call 45; refine (sPutNum_any _ _ (by omega) (by omega)).mono ?_; rintro e w1 ⟨rfl, hb1⟩)
    go_ret
    refine ⟨?_, hb1⟩
    rw [putTextS, putTextL, if_neg h, ← bappend]
    rfl

end Go.Proofs.YtpncnkihfijmaaaDoor
