/-
  markText: a letter, and a number in digits; the marks of a list of holds. Lists of holds: the laws' marks are written, and found again. Lists of texts, bookings, and what PnrRead gives: the laws' marks are written, and found again.
-/
import Derived.Test.YtpncnkihfijmaaaGreatDoorM1
import Derived.Test.YtpncnkihfijmaaaGreatDoorM8
namespace Go.Proofs.YtpncnkihfijmaaaGreatDoor
open Go.ChangeShapes Go.WideShapes Go.ChangeAt Go.RowKit Go.ChangeMaps
set_option maxRecDepth 10000
set_option linter.unusedSimpArgs false
set_option linter.unusedVariables false

/-- The mark of a number above 0. -/
def markS (k : Nat) : ByteArray := ⟨(109 :: decU k).toArray⟩

def MarkRel (R : List UInt8) (n : Nat) (w : World) (x v : Value) (wr : World) : Prop :=
  ∃ (u : Nat) (l : List UInt8), x = .int .i64 (u : Int) ∧ u ≤ n ∧ v = .string ⟨l.toArray⟩ ∧ Hid (decU u ++ l = R) ∧ l.length + u ≤ n ∧ Below w.heap.size w wr

set_option maxHeartbeats 1000000 in
theorem markText_any (n : Nat) (w : World) (h0 : 0 < n) (hn : n ≤ 1099511627776) : Calls Tryz.prog 91 #[.int .i64 n] w fun e w' => e = .returned (.string (markS n)) ∧ Below w.heap.size w w' := by
  have hD : Hid (markS n = ⟨(109 :: decU n).toArray⟩) := rfl
  generalize markS n = S at *
  have hDR : decU n ++ [] = decU n := List.append_nil _
  generalize hR : decU n = R at *
  rw [← hR] at hDR
  have HD : Hid (decU n ++ [] = R) := by rw [Hid, hDR, hR]
  clear hDR hR
  go_enter Tryz.func91, Tryz.ntmps91
  go_wp2
  go_loopw [0, 3] (fun x v wr => MarkRel R n w x v wr) (fun x _ _ => (intOf x).toNat)
  case atStart => exact ⟨n, [], rfl, Nat.le_refl _, rfl, HD, by simp, Below.refl _ _⟩
  case round =>
    obtain ⟨u, l, rfl, hu, rfl, hl, hln, hB⟩ := hrel
    by_cases hu0 : u = 0
    · subst hu0
      have ha := Lib.hid (bappend [109] ⟨l.toArray⟩)
      have hlR : Hid (l = R) := hl
      go_wp2
      go_ret
      refine ⟨?_, hB⟩
      rw [hD.out, ← hlR.out]
      exact congrArg (fun z => Ending.returned (.string z)) ha.out
    · have hs := Lib.hid (decU_step (u := u) (by omega) l)
      have hb : ((UInt8.ofNat (48 + u % 10)).toNat : Int) = 48 + (u : Int) % 10 := by rw [ofNat_toNat (by omega)]; omega
      generalize UInt8.ofNat (48 + u % 10) = b at *
      have HB := Lib.hid hb
      have ha := Lib.hid (bappend [b] ⟨l.toArray⟩)
      have hpos : 0 < u := by omega
      clear hb
      go_wp2_with (refine wpList_str_one Tryz.underlying31 Tryz.underlying5 Tryz.underlying9 b ?_ rfl ?_; rotate_left)
      · go_roundw
        case rel => exact ⟨u / 10, b :: l, by go_num, by omega, congrArg Value.string ha.out, by rw [← hl.out, hs.out]; rfl, by simp; omega, hB.alloc hB.size _⟩
        case measure => simp [intOf]; omega
      · exact HB.out.symm
end Go.Proofs.YtpncnkihfijmaaaGreatDoor
namespace Go.Proofs.YtpncnkihfijmaaaGreatDoor
open Go.ChangeShapes Go.WideShapes Go.ChangeAt Go.RowKit Go.ChangeMaps
set_option maxRecDepth 10000
set_option linter.unusedSimpArgs false
set_option linter.unusedVariables false

theorem grown_trans {a b c : World} {row : Option Nat} (h : a.grownBy b row) (k : b.grownBy c row) : a.grownBy c row :=
  ⟨k.os.trans h.os, k.tape.trans h.tape, k.output.trans h.output, Nat.le_trans h.size k.size, fun i hi hr => (k.block i (Nat.lt_of_lt_of_le hi h.size) hr).trans (h.block i hi hr)⟩

/-- The marks of m holds, the first of which bears k. -/
def marksL (k : Nat) : Nat → List HD
  | 0 => []
  | m + 1 => marksL k m ++ [⟨markS (k + 3 * m), ((k + 3 * m + 1 : Nat) : Int), ((k + 3 * m + 2 : Nat) : Int)⟩]
theorem marksL_length (k m : Nat) : (marksL k m).length = m := by
  induction m with
  | zero => rfl
  | succ m ih => simp [marksL, ih]
theorem marksL_at (k : Nat) : ∀ (n m : Nat), m < n → (marksL k n)[m]? = some ⟨markS (k + 3 * m), ((k + 3 * m + 1 : Nat) : Int), ((k + 3 * m + 2 : Nat) : Int)⟩
  | 0, m, h => by omega
  | n + 1, m, h => by
    have hl := marksL_length k n
    by_cases he : m = n
    · subst he
      rw [marksL, List.getElem?_append_right (by omega), hl, Nat.sub_self]
      rfl
    · rw [marksL, List.getElem?_append_left (by omega)]
      exact marksL_at k n m (by omega)
theorem marksC_succ (k m : Nat) : holdsC (marksL k (m + 1)) = holdsC (marksL k m) ++ [.string (markS (k + 3 * m)), .int .i64 ((k + 3 * m + 1 : Nat) : Int), .int .i64 ((k + 3 * m + 2 : Nat) : Int)] := by
  rw [marksL, holdsC_append]; rfl

def MarkHRel (base k n cap : Nat) (A : Option Addr) (w : World) (x i : Value) (wr : World) : Prop :=
  ∃ (m q : Nat) (rest : List Value), m ≤ n ∧ i = .int .i64 m ∧ x = .int .i64 (q : Int) ∧ q = k + 3 * m ∧ rest.length = (n - m) * 3 ∧
    wr.ownsRow base 49 3 (.slice A n cap) n (holdsC (marksL k m) ++ rest) ∧ w.grownBy wr (Value.slice A n cap).ownBlock

end Go.Proofs.YtpncnkihfijmaaaGreatDoor
namespace Go.Proofs.YtpncnkihfijmaaaGreatDoor
open Go.ChangeShapes Go.WideShapes Go.ChangeAt Go.RowKit Go.ChangeMaps
set_option maxRecDepth 10000
set_option linter.unusedSimpArgs false
set_option linter.unusedVariables false

/-- The marks of m texts, the first of which bears k. -/
def marksS (k : Nat) : Nat → List ByteArray
  | 0 => []
  | m + 1 => marksS k m ++ [markS (k + m)]
theorem marksS_length (k m : Nat) : (marksS k m).length = m := by
  induction m with
  | zero => rfl
  | succ m ih => simp [marksS, ih]
theorem marksS_at (k : Nat) : ∀ (n m : Nat), m < n → (marksS k n)[m]? = some (markS (k + m))
  | 0, m, h => by omega
  | n + 1, m, h => by
    have hl := marksS_length k n
    by_cases he : m = n
    · subst he
      rw [marksS, List.getElem?_append_right (by omega), hl, Nat.sub_self]
      rfl
    · rw [marksS, List.getElem?_append_left (by omega)]
      exact marksS_at k n m (by omega)
theorem marksSC_succ (k m : Nat) : strsC (marksS k (m + 1)) = strsC (marksS k m) ++ [.string (markS (k + m))] := by
  rw [marksS, strsC_append]; rfl

def MarkSRel (base k n cap : Nat) (A : Option Addr) (w : World) (x i : Value) (wr : World) : Prop :=
  ∃ (m q : Nat) (rest : List Value), m ≤ n ∧ i = .int .i64 m ∧ x = .int .i64 (q : Int) ∧ q = k + m ∧ rest.length = n - m ∧
    wr.ownsRow base 9 1 (.slice A n cap) n (strsC (marksS k m) ++ rest) ∧ w.grownBy wr (Value.slice A n cap).ownBlock

end Go.Proofs.YtpncnkihfijmaaaGreatDoor
