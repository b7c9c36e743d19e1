/-
  Lists of holds: the laws' marks are written, and found again.
-/
import Derived.Test.YtagbcfkdieinpaaMark
namespace Go.Proofs.Ytagbcfkdieinpaa
open Go.ChangeShapes Go.WideShapes Go.ChangeAt Go.RowKit Go.ChangeMaps
set_option linter.unusedSimpArgs false
set_option linter.unusedVariables false

theorem grown_trans {a b c : World} {row : Option Nat} (h : a.grownBy b row) (k : b.grownBy c row) : a.grownBy c row :=
  ⟨k.os.trans h.os, k.tape.trans h.tape, k.output.trans h.output, Nat.le_trans h.size k.size, fun i hi hr => (k.block i (Nat.lt_of_lt_of_le hi h.size) hr).trans (h.block i hi hr)⟩

/-- The marks of m holds, the first of which bears k. -/
def marksL (k : Nat) : Nat → List HD
  | 0 => []
  | m + 1 => marksL k m ++ [⟨markS (k + 3 * m), ((k + 3 * m + 1 : Nat) : Int), ((k + 3 * m + 2 : Nat) : Int)⟩]
theorem marksL_length (k m : Nat) : (marksL k m).length = m := by
  induction m with
  | zero => rfl
  | succ m ih => simp [marksL, ih]
theorem marksL_at (k : Nat) : ∀ (n m : Nat), m < n → (marksL k n)[m]? = some ⟨markS (k + 3 * m), ((k + 3 * m + 1 : Nat) : Int), ((k + 3 * m + 2 : Nat) : Int)⟩
  | 0, m, h => by omega
  | n + 1, m, h => by
    have hl := marksL_length k n
    by_cases he : m = n
    · subst he
      rw [marksL, List.getElem?_append_right (by omega), hl, Nat.sub_self]
      rfl
    · rw [marksL, List.getElem?_append_left (by omega)]
      exact marksL_at k n m (by omega)
theorem marksC_succ (k m : Nat) : holdsC (marksL k (m + 1)) = holdsC (marksL k m) ++ [.string (markS (k + 3 * m)), .int .i64 ((k + 3 * m + 1 : Nat) : Int), .int .i64 ((k + 3 * m + 2 : Nat) : Int)] := by
  rw [marksL, holdsC_append]; rfl

def MarkHRel (base k n cap : Nat) (A : Option Addr) (w : World) (x i : Value) (wr : World) : Prop :=
  ∃ (m q : Nat) (rest : List Value), m ≤ n ∧ i = .int .i64 m ∧ x = .int .i64 (q : Int) ∧ q = k + 3 * m ∧ rest.length = (n - m) * 3 ∧
    wr.ownsRow base 30 3 (.slice A n cap) n (holdsC (marksL k m) ++ rest) ∧ w.grownBy wr (Value.slice A n cap).ownBlock

set_option maxHeartbeats 2000000 in
theorem markHoldS_any (base k n cap : Nat) (A : Option Addr) (xs : List Value) (w : World) (hown : w.ownsRow base 30 3 (.slice A n cap) n xs) (hbase : base ≤ w.heap.size) (hk : 0 < k) (hk2 : k ≤ 1099511627) (hn : n ≤ 1099511627) :
    Calls Try.prog 16 #[.slice A n cap, .int .i64 k] w fun e w' => e = .returned (.int .i64 ((k + 3 * n : Nat) : Int)) ∧ w'.ownsRow base 30 3 (.slice A n cap) n (holdsC (marksL k n)) ∧ w.grownBy w' (Value.slice A n cap).ownBlock := by
  have HK : Hid (∀ q : Nat, q = k + 3 * n → Value.int .i64 (q : Int) = .int .i64 ((k + 3 * n : Nat) : Int)) := fun q h => by rw [h]
  generalize ((k + 3 * n : Nat) : Int) = R at *
  go_enter Try.func16, Try.ntmps16
  go_wp2
  go_loopw [1, 5] (fun x i wr => MarkHRel base k n cap A w x i wr) (fun _ i _ => n - (intOf i).toNat)
  case atStart => exact ⟨0, k, xs, Nat.zero_le _, rfl, rfl, rfl, by simpa using hown.1, by simpa [marksL, holdsC] using hown, World.grownBy.refl _ _⟩
  case round =>
    obtain ⟨m, q, rest, hm, rfl, rfl, hq, hrl, hown, hg⟩ := hrel
    have HQ := Lib.hid hq
    by_cases hlt : m < n
    · obtain ⟨g, cap', hv, hbg, _, _, hglt, _⟩ := row_at hown (by omega)
      injection hv with hv _ hv2
      subst hv
      clear hv2
      have hq1 : q ≤ 10995116270 := by omega
      have hq0 : 0 < q := by omega
      have HM : Hid (∀ W : World, Calls Try.prog 31 #[.int .i64 q] W fun e w' => e = .returned (.string (markS q)) ∧ Below W.heap.size W w') := fun W => markText_any q W hq0 (by omega)
      have HS : Hid (holdsC (marksL k (m + 1)) = holdsC (marksL k m) ++ [.string (markS q), .int .i64 ((q : Int) + 1), .int .i64 ((q : Int) + 1 + 1)]) := by
        rw [Hid, marksC_succ, HQ.out]
        simp [Int.add_assoc]
      have hTL : (holdsC (marksL k m)).length = m * 3 := by rw [holdsC_length, marksL_length]
      have H3 := Lib.hid (set_three (holdsC (marksL k m)) rest (m * 3) hTL (by omega) (.string (markS q)) (.int .i64 ((q : Int) + 1)) (.int .i64 ((q : Int) + 1 + 1)))
      have HL := Lib.hid hown.1
      generalize holdsC (marksL k m) = X at *
      generalize markS q = S at *
      clear hTL hq
      go_wp2_with fail
      refine (HM.out _).mono ?_
      rintro e w2 ⟨rfl, hb2⟩
      have hown2 := ownsRow_below hown hb2
      have f0 := hown2.frozenAt (m * 3)
      have f1 := hown2.frozenAt (m * 3 + 1)
      have f2 := hown2.frozenAt (m * 3 + 2)
      have hlen := HL.out
      obtain ⟨u0, d0⟩ : ∃ u, w2.cell? ⟨g, m * 3, none⟩ = some u := ⟨_, (hown2.cellAt (m * 3) (by omega)).trans (List.getElem?_eq_getElem (by omega))⟩
      obtain ⟨u1, d1⟩ : ∃ u, w2.cell? ⟨g, m * 3 + 1, none⟩ = some u := ⟨_, (hown2.cellAt (m * 3 + 1) (by omega)).trans (List.getElem?_eq_getElem (by omega))⟩
      obtain ⟨u2, d2⟩ : ∃ u, w2.cell? ⟨g, m * 3 + 2, none⟩ = some u := ⟨_, (hown2.cellAt (m * 3 + 2) (by omega)).trans (List.getElem?_eq_getElem (by omega))⟩
      have s1 := hown2.stored (m * 3) (.string S)
      have s2 := s1.1.stored (m * 3 + 1) (.int .i64 ((q : Int) + 1))
      have s3 := s2.1.stored (m * 3 + 2) (.int .i64 ((q : Int) + 1 + 1))
      have hown3 := s3.1
      rw [H3.out] at hown3
      have HO := Lib.hid hown3
      have hg3 := Lib.hid (grown_trans (grown_trans hg (grown_of_below hb2 _)) (grown_trans s1.2 (grown_trans s2.2 s3.2)))
      clear hown hown2 hown3 hlen hb2 hg s1 s2 s3
      go_wp2_with fail
      go_roundw
      case rel => exact ⟨m + 1, q + 3, rest.drop 3, by omega, by go_num, by go_num, by have := HQ.out; omega, by simp; omega, by rw [HS.out]; exact HO.out, hg3.out⟩
      case measure => simp [intOf]; omega
    · obtain rfl : m = n := by omega
      obtain rfl : rest = [] := List.eq_nil_of_length_eq_zero (by omega)
      rw [List.append_nil] at hown
      have HV := Lib.hid (HK.out q hq)
      clear hq
      go_wp2
      go_ret
      exact ⟨congrArg Ending.returned HV.out, hown, hg⟩

set_option maxHeartbeats 2000000 in
theorem heldHoldS_any (k n cap : Nat) (A : Option Addr) (w : World) (hl : Lies w w.heap.size 3 A n (holdsC (marksL k n))) (hk : 0 < k) (hk2 : k ≤ 1099511627) (hn : n ≤ 1099511627) :
    Calls Try.prog 17 #[.slice A n cap, .int .i64 k] w fun e w' => e = .returned (.int .i64 ((k + 3 * n : Nat) : Int)) ∧ Below w.heap.size w w' := by
  have HK : Hid (∀ q : Nat, q = k + 3 * n → Value.int .i64 (q : Int) = .int .i64 ((k + 3 * n : Nat) : Int)) := fun q h => by rw [h]
  generalize ((k + 3 * n : Nat) : Int) = R at *
  go_enter Try.func17, Try.ntmps17
  go_wp2
  go_loopw [1, 5] (fun x i wr => ∃ (m q : Nat), m ≤ n ∧ i = .int .i64 m ∧ x = .int .i64 (q : Int) ∧ Hid (q = k + 3 * m) ∧ Below w.heap.size w wr) (fun _ i _ => n - (intOf i).toNat)
  case atStart => exact ⟨0, k, Nat.zero_le _, rfl, rfl, rfl, Below.refl _ _⟩
  case round =>
    obtain ⟨m, q, hm, rfl, rfl, HQ, hB⟩ := hrel
    have hq := HQ.out
    by_cases hlt : m < n
    · obtain ⟨b, off, x, rfl, hlb, hx, c0, c1, c2⟩ := (hl.below hB).hold hlt
      obtain rfl := Option.some.inj (hx.symm.trans (marksL_at k n m hlt))
      have hq1 : q ≤ 10995116270 := by omega
      have hq0 : 0 < q := by omega
      have HM : Hid (∀ W : World, Calls Try.prog 31 #[.int .i64 q] W fun e w' => e = .returned (.string (markS q)) ∧ Below W.heap.size W w') := fun W => markText_any q W hq0 (by omega)
      have e1 : ((k + 3 * m + 1 : Nat) : Int) = (q : Int) + 1 := by omega
      have e2 : ((k + 3 * m + 2 : Nat) : Int) = (q : Int) + 1 + 1 := by omega
      dsimp only at c0 c1 c2
      rw [e1] at c1
      rw [e2] at c2
      rw [← hq] at c0
      generalize markS q = S at *
      have hz := hB.size
      have hBd := hB.drew
      clear hx hl hq e1 e2
      go_wp2_with fail
      go_region_held3 (fun W => W.cell? ⟨b, off + m * 3, none⟩ = some (.string S) ∧ W.cell? ⟨b, off + m * 3 + 1, none⟩ = some (.int .i64 ((q : Int) + 1)) ∧ W.cell? ⟨b, off + m * 3 + 2, none⟩ = some (.int .i64 ((q : Int) + 1 + 1)) ∧ Below w.heap.size w W ∧ w.heap.size ≤ W.heap.size)
        (first | (go_keep; done) | (go_split_ands; exact ⟨kc hb (by assumption) (by omega), kc hb (by assumption) (by omega), kc hb (by assumption) (by omega), bstep hb (by assumption) (by omega), zstep hb (by assumption)⟩))
        (first | (go_at_call 31; refine (HM.out _).mono ?_; rintro e w' ⟨rfl, hb⟩))
      clear c0 c1 c2 hB hz hBd
      rename_i hHeld
      obtain ⟨c0, c1, c2, hB, hz⟩ := hHeld
      go_wp2_with fail
      go_roundw
      case rel => exact ⟨m + 1, q + 3, by omega, by go_num, by go_num, by have := HQ.out; show _ = _; omega, hB⟩
      case measure => simp [intOf]; omega
    · obtain rfl : m = n := by omega
      have HV := Lib.hid (HK.out q hq)
      clear hq hl
      go_wp2
      go_ret
      exact ⟨congrArg Ending.returned HV.out, hB⟩
end Go.Proofs.Ytagbcfkdieinpaa
