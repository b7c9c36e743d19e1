/-
  What stands as a number at a place of a text: the bytes one by one.
-/
namespace Go.Proofs.YtjoogeiciciddaaDoor

def unfoldI (u : Nat) : Int := if u % 2 = 1 then -((u / 2 : Nat) : Int) - 1 else ((u / 2 : Nat) : Int)
def rdN (s : ByteArray) (p : Nat) : Nat → Nat → Nat → Int × Int × Int
  | 0, _, _ => (0, 0, 3)
  | k + 1, i, u =>
    if h : p + i < s.size then
      if i = 9 ∧ 1 < s[p + i].toNat then (0, 0, 3)
      else if s[p + i].toNat < 128 then
        if s[p + i].toNat = 0 ∧ 0 < i then (0, 0, 3) else (unfoldI (u + s[p + i].toNat % 128 * 2 ^ (7 * i)), ((p + i + 1 : Nat) : Int), 0)
      else rdN s p k (i + 1) (u + s[p + i].toNat % 128 * 2 ^ (7 * i))
    else (0, 0, 4)
def getN (s : ByteArray) (p : Int) : Int × Int × Int := if 8000 < s.size then (0, 0, 2) else if p < 0 then (0, 0, 1) else rdN s p.toNat 10 0 0

section
variable {s : ByteArray} {p k i u : Nat}
theorem rdN_short (h : ¬ p + i < s.size) : rdN s p (k + 1) i u = (0, 0, 4) := by rw [rdN, dif_neg h]
theorem rdN_tenth (h : p + i < s.size) (h9 : i = 9) (h1 : 1 < s[p + i].toNat) : rdN s p (k + 1) i u = (0, 0, 3) := by rw [rdN, dif_pos h, if_pos ⟨h9, h1⟩]
theorem rdN_nought (h : p + i < s.size) (h0 : s[p + i].toNat = 0) (hi : 0 < i) : rdN s p (k + 1) i u = (0, 0, 3) := by
  rw [rdN, dif_pos h, if_neg (by omega), if_pos (by omega), if_pos ⟨h0, hi⟩]
theorem rdN_last (h : p + i < s.size) (h9 : ¬ (i = 9 ∧ 1 < s[p + i].toNat)) (hl : s[p + i].toNat < 128) (h0 : ¬ (s[p + i].toNat = 0 ∧ 0 < i)) :
    rdN s p (k + 1) i u = (unfoldI (u + s[p + i].toNat % 128 * 2 ^ (7 * i)), ((p + i + 1 : Nat) : Int), 0) := by
  rw [rdN, dif_pos h, if_neg h9, if_pos hl, if_neg h0]
theorem rdN_tail (h : p + i < s.size) (h9 : ¬ (i = 9 ∧ 1 < s[p + i].toNat)) (hl : s[p + i].toNat < 128) :
    rdN s p (k + 1) i u = if s[p + i].toNat = 0 ∧ 0 < i then (0, 0, 3) else (unfoldI (u + s[p + i].toNat % 128 * 2 ^ (7 * i)), ((p + i + 1 : Nat) : Int), 0) := by
  rw [rdN, dif_pos h, if_neg h9, if_pos hl]
theorem rdN_more (h : p + i < s.size) (h9 : ¬ (i = 9 ∧ 1 < s[p + i].toNat)) (hl : ¬ s[p + i].toNat < 128) :
    rdN s p (k + 1) i u = rdN s p k (i + 1) (u + s[p + i].toNat % 128 * 2 ^ (7 * i)) := by
  rw [rdN, dif_pos h, if_neg h9, if_neg hl]
end
theorem getN_long {s : ByteArray} {p : Int} (h : 8000 < s.size) : getN s p = (0, 0, 2) := by rw [getN, if_pos h]
theorem getN_neg {s : ByteArray} {p : Int} (h : ¬ 8000 < s.size) (hp : p < 0) : getN s p = (0, 0, 1) := by rw [getN, if_neg h, if_pos hp]
theorem getN_at {s : ByteArray} {p : Int} (h : ¬ 8000 < s.size) (hp : ¬ p < 0) : getN s p = rdN s p.toNat 10 0 0 := by rw [getN, if_neg h, if_neg hp]

end Go.Proofs.YtjoogeiciciddaaDoor
