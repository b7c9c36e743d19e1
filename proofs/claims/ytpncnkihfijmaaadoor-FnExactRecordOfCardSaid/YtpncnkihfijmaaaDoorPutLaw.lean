/-
  The bytes of a number: seven bits a byte, the lowest first.
-/
namespace Go.Proofs.YtpncnkihfijmaaaDoor

def foldI (n : Int) : Nat := if n < 0 then (-2 * n - 1).toNat else (2 * n).toNat
theorem foldI_lt {n : Int} (h1 : -9223372036854775808 ≤ n) (h2 : n ≤ 9223372036854775807) : foldI n < 18446744073709551616 := by
  unfold foldI; split <;> omega

def putU (u : Nat) : List UInt8 := if h : u < 128 then [UInt8.ofNat u] else UInt8.ofNat (u % 128 + 128) :: putU (u / 128)
termination_by u
decreasing_by omega
theorem putU_low {u : Nat} (h : u < 128) : putU u = [UInt8.ofNat u] := by rw [putU, dif_pos h]
theorem putU_high {u : Nat} (h : ¬ u < 128) : putU u = UInt8.ofNat (u % 128 + 128) :: putU (u / 128) := by rw [putU, dif_neg h]
theorem putU_pos (u : Nat) : 1 ≤ (putU u).length := by
  rw [putU]; split <;> simp
theorem putU_length : ∀ (k u : Nat), u < 128 ^ (k + 1) → (putU u).length ≤ k + 1
  | 0, u, h => by
    rw [putU_low (by simpa using h)]; simp
  | k + 1, u, h => by
    by_cases hu : u < 128
    · rw [putU_low hu]; simp
    · rw [putU_high hu, List.length_cons]
      have := putU_length k (u / 128) (Nat.div_lt_of_lt_mul (by rw [Nat.pow_succ] at h; omega))
      omega
theorem putU_ten {u : Nat} (h : u < 18446744073709551616) : (putU u).length ≤ 10 := putU_length 9 u (Nat.lt_of_lt_of_le h (by decide))
def putI (n : Int) : List UInt8 := putU (foldI n)
theorem putI_ten {n : Int} (h1 : -9223372036854775808 ≤ n) (h2 : n ≤ 9223372036854775807) : (putI n).length ≤ 10 := putU_ten (foldI_lt h1 h2)

end Go.Proofs.YtpncnkihfijmaaaDoor
