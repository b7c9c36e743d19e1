/-
  The CRC on numbers below 2^32: one bit, one byte, a text.
-/
namespace Go.Proofs.YtpncnkihfijmaaaDoor

def crcBit (r : Nat) : Nat := if r % 2 = 1 then (r / 2) ^^^ 3988292384 else r / 2
def crcBits : Nat → Nat → Nat
  | 0, r => r
  | k + 1, r => crcBit (crcBits k r)
def crcRound (r c : Nat) : Nat := crcBits 8 (r ^^^ c)
def crcTo (r : Nat) (l : List UInt8) : Nat := l.foldl (fun r c => crcRound r c.toNat) r
def crcOf (crc : Nat) (l : List UInt8) : Nat := (crcTo (crc ^^^ 4294967295) l) ^^^ 4294967295

theorem xor_lt {a b : Nat} (ha : a < 4294967296) (hb : b < 4294967296) : a ^^^ b < 4294967296 := Nat.xor_lt_two_pow (n := 32) ha hb
theorem crcBit_lt {r : Nat} (h : r < 4294967296) : crcBit r < 4294967296 := by
  unfold crcBit
  split
  · exact xor_lt (by omega) (by omega)
  · omega
theorem crcBits_lt {r : Nat} (h : r < 4294967296) : ∀ k, crcBits k r < 4294967296
  | 0 => h
  | k + 1 => crcBit_lt (crcBits_lt h k)
theorem crcRound_lt {r c : Nat} (h : r < 4294967296) (hc : c < 256) : crcRound r c < 4294967296 := crcBits_lt (xor_lt h (by omega)) 8
theorem crcTo_lt : ∀ (l : List UInt8) {r : Nat} (_ : r < 4294967296), crcTo r l < 4294967296
  | [], _, h => h
  | c :: l, _, h => crcTo_lt l (crcRound_lt h c.toNat_lt)
theorem crcOf_lt {crc : Nat} {l : List UInt8} (h : crc < 4294967296) : crcOf crc l < 4294967296 := xor_lt (crcTo_lt l (xor_lt h (by omega))) (by omega)
theorem crcTo_snoc (r : Nat) (l : List UInt8) (c : UInt8) : crcTo r (l ++ [c]) = crcRound (crcTo r l) c.toNat := by simp [crcTo, List.foldl_append]

/-- The other way: the register alone is shifted, the byte's bit is put to it. -/
def crcSide (r c k : Nat) : Nat := crcBits k (r ^^^ c) ^^^ (c / 2 ^ k)
theorem crcSide_lt {r c : Nat} (h : r < 4294967296) (hc : c < 256) (k : Nat) : crcSide r c k < 4294967296 :=
  xor_lt (crcBits_lt (xor_lt h (by omega)) k) (Nat.lt_of_le_of_lt (Nat.div_le_self _ _) (by omega))
theorem crcSide_zero (r c : Nat) : crcSide r c 0 = r := by simp [crcSide, crcBits, Nat.xor_assoc]
theorem crcSide_eight {r c : Nat} (hc : c < 256) : crcSide r c 8 = crcRound r c := by
  have : c / 2 ^ 8 = 0 := Nat.div_eq_of_lt (by simpa using hc)
  simp [crcSide, this, crcRound]
theorem xor_xor_self (a b : Nat) : a ^^^ b ^^^ b = a := by rw [Nat.xor_assoc, Nat.xor_self, Nat.xor_zero]
theorem crcSide_odd (r c k : Nat) : (crcSide r c k ^^^ (c / 2 ^ k)) = crcBits k (r ^^^ c) := by unfold crcSide; rw [xor_xor_self]
theorem xor_half (a b : Nat) : (a ^^^ b) / 2 = (a / 2) ^^^ (b / 2) := by
  have := Nat.shiftRight_xor_distrib (a := a) (b := b) (i := 1)
  simpa [Nat.shiftRight_eq_div_pow] using this
theorem crcSide_succ (r c k : Nat) : crcSide r c (k + 1) = if crcBits k (r ^^^ c) % 2 = 1 then (crcSide r c k / 2) ^^^ 3988292384 else crcSide r c k / 2 := by
  have e : c / 2 ^ (k + 1) = c / 2 ^ k / 2 := by rw [Nat.pow_succ, Nat.div_div_eq_div_mul]
  unfold crcSide
  rw [xor_half, e, crcBits, crcBit]
  by_cases h : crcBits k (r ^^^ c) % 2 = 1
  · rw [if_pos h, if_pos h, Nat.xor_assoc, Nat.xor_assoc, Nat.xor_comm 3988292384]
  · rw [if_neg h, if_neg h]

end Go.Proofs.YtpncnkihfijmaaaDoor
