/-
  markText: a letter, and a number in digits; the marks of a list of holds.
-/
import Derived.Test.YtagbcfkdieinpaaDecU
import Derived.Test.YtagbcfkdieinpaaHoldLists
namespace Go.Proofs.Ytagbcfkdieinpaa
open Go.ChangeShapes Go.WideShapes Go.ChangeAt Go.RowKit Go.ChangeMaps
set_option linter.unusedSimpArgs false
set_option linter.unusedVariables false

/-- The mark of a number above 0. -/
def markS (k : Nat) : ByteArray := ⟨(109 :: decU k).toArray⟩

def MarkRel (R : List UInt8) (n : Nat) (w : World) (x v : Value) (wr : World) : Prop :=
  ∃ (u : Nat) (l : List UInt8), x = .int .i64 (u : Int) ∧ u ≤ n ∧ v = .string ⟨l.toArray⟩ ∧ Hid (decU u ++ l = R) ∧ l.length + u ≤ n ∧ Below w.heap.size w wr

set_option maxHeartbeats 1000000 in
theorem markText_any (n : Nat) (w : World) (h0 : 0 < n) (hn : n ≤ 1099511627776) : Calls Try.prog 31 #[.int .i64 n] w fun e w' => e = .returned (.string (markS n)) ∧ Below w.heap.size w w' := by
  have hD : Hid (markS n = ⟨(109 :: decU n).toArray⟩) := rfl
  generalize markS n = S at *
  have hDR : decU n ++ [] = decU n := List.append_nil _
  generalize hR : decU n = R at *
  rw [← hR] at hDR
  have HD : Hid (decU n ++ [] = R) := by rw [Hid, hDR, hR]
  clear hDR hR
  go_enter Try.func31, Try.ntmps31
  go_wp2
  go_loopw [0, 3] (fun x v wr => MarkRel R n w x v wr) (fun x _ _ => (intOf x).toNat)
  case atStart => exact ⟨n, [], rfl, Nat.le_refl _, rfl, HD, by simp, Below.refl _ _⟩
  case round =>
    obtain ⟨u, l, rfl, hu, rfl, hl, hln, hB⟩ := hrel
    by_cases hu0 : u = 0
    · subst hu0
      have ha := Lib.hid (bappend [109] ⟨l.toArray⟩)
      have hlR : Hid (l = R) := hl
      go_wp2
      go_ret
      refine ⟨?_, hB⟩
      rw [hD.out, ← hlR.out]
      exact congrArg (fun z => Ending.returned (.string z)) ha.out
    · have hs := Lib.hid (decU_step (u := u) (by omega) l)
      have hb : ((UInt8.ofNat (48 + u % 10)).toNat : Int) = 48 + (u : Int) % 10 := by rw [ofNat_toNat (by omega)]; omega
      generalize UInt8.ofNat (48 + u % 10) = b at *
      have HB := Lib.hid hb
      have ha := Lib.hid (bappend [b] ⟨l.toArray⟩)
      have hpos : 0 < u := by omega
      clear hb
      go_wp2_with (refine wpList_str_one Try.underlying73 Try.underlying5 Try.underlying9 b ?_ rfl ?_; rotate_left)
      · go_roundw
        case rel => exact ⟨u / 10, b :: l, by go_num, by omega, congrArg Value.string ha.out, by rw [← hl.out, hs.out]; rfl, by simp; omega, hB.alloc hB.size _⟩
        case measure => simp [intOf]; omega
      · exact HB.out.symm
end Go.Proofs.Ytagbcfkdieinpaa
