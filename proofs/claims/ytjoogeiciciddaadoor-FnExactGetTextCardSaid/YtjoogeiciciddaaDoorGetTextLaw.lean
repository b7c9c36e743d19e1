/-
  What stands as a text at a place of a text.
-/
import Derived.Test.YtjoogeiciciddaaDoorGetLaw
namespace Go.Proofs.YtjoogeiciciddaaDoor

def getTof (s : ByteArray) (n q c : Int) : ByteArray × Int × Int :=
  if c ≠ 0 then (⟨#[]⟩, 0, c) else if n < 0 ∨ 8000 < n then (⟨#[]⟩, 0, 3) else if (s.size : Int) < q + n then (⟨#[]⟩, 0, 4) else (s.extract q.toNat (q + n).toNat, q + n, 0)
def getT (s : ByteArray) (p : Int) : ByteArray × Int × Int := getTof s (getN s p).1 (getN s p).2.1 (getN s p).2.2
theorem getT_of {s : ByteArray} {p n q c : Int} (h : getN s p = (n, q, c)) : getT s p = getTof s n q c := by rw [getT, h]
theorem getTof_code {s : ByteArray} {n q c : Int} (h : c ≠ 0) : getTof s n q c = (⟨#[]⟩, 0, c) := by rw [getTof, if_pos h]
theorem getTof_range {s : ByteArray} {n q : Int} (h : n < 0 ∨ 8000 < n) : getTof s n q 0 = (⟨#[]⟩, 0, 3) := by rw [getTof, if_neg (by simp), if_pos h]
theorem getTof_short {s : ByteArray} {n q : Int} (h : ¬ (n < 0 ∨ 8000 < n)) (h' : (s.size : Int) < q + n) : getTof s n q 0 = (⟨#[]⟩, 0, 4) := by rw [getTof, if_neg (by simp), if_neg h, if_pos h']
theorem getTof_yes {s : ByteArray} {n q : Int} (h : ¬ (n < 0 ∨ 8000 < n)) (h' : ¬ (s.size : Int) < q + n) : getTof s n q 0 = (s.extract q.toNat (q + n).toNat, q + n, 0) := by rw [getTof, if_neg (by simp), if_neg h, if_neg h']

theorem rdN_place (s : ByteArray) (p : Nat) : ∀ (k i u : Nat) (n q : Int), rdN s p k i u = (n, q, 0) → 0 ≤ q ∧ q ≤ s.size
  | 0, _, _, n, q, h => by simp [rdN] at h
  | k + 1, i, u, n, q, h => by
    by_cases h1 : p + i < s.size
    · by_cases h9 : i = 9 ∧ 1 < s[p + i].toNat
      · rw [rdN_tenth h1 h9.1 h9.2] at h
        simp at h
      · by_cases hl : s[p + i].toNat < 128
        · rw [rdN_tail h1 h9 hl] at h
          by_cases h0 : s[p + i].toNat = 0 ∧ 0 < i
          · rw [if_pos h0] at h
            simp at h
          · rw [if_neg h0] at h
            simp only [Prod.mk.injEq] at h
            obtain ⟨_, h2, _⟩ := h
            omega
        · rw [rdN_more h1 h9 hl] at h
          exact rdN_place s p k _ _ n q h
    · rw [rdN_short h1] at h
      simp at h
theorem getN_place {s : ByteArray} {p n q : Int} (h : getN s p = (n, q, 0)) : s.size ≤ 8000 ∧ 0 ≤ q ∧ q ≤ s.size := by
  by_cases h8 : 8000 < s.size
  · rw [getN_long h8] at h; simp at h
  by_cases hp : p < 0
  · rw [getN_neg h8 hp] at h; simp at h
  · rw [getN_at h8 hp] at h
    have := rdN_place s _ _ _ _ n q h
    omega
end Go.Proofs.YtjoogeiciciddaaDoor
