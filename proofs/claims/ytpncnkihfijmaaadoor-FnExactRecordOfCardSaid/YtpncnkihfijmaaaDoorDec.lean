/-
  l01Dec: a number in digits.
-/
import Derived.Test.YtpncnkihfijmaaaDoorDecU
namespace Go.Proofs.YtpncnkihfijmaaaDoor
open Go.ChangeShapes Go.WideShapes Go.ChangeAt Go.RowKit Go.ChangeMaps
set_option maxRecDepth 10000
set_option linter.unusedSimpArgs false
set_option linter.unusedVariables false

set_option maxHeartbeats 1000000 in
theorem l01Dec_nat (n : Nat) (w : World) (hn : n ≤ 9223372036854775807) : Calls Tryd.prog 28 #[.int .i64 n] w fun e w' => e = .returned (.string ⟨(Lib.decDigits n).toArray⟩) ∧ Below w.heap.size w w' := by
  by_cases h0 : n = 0
  · subst h0
    go_enter Tryd.func28, Tryd.ntmps28
    go_wp2
    go_ret
    refine ⟨?_, Below.refl _ _⟩
    rw [Lib.decDigits, dif_pos (by omega)]
    rfl
  have hb0 : ((n : Int) == 0) = false := by rw [beq_eq_false_iff_ne]; omega
  have hD : decU n ++ [] = Lib.decDigits n := by rw [decU, if_neg h0, List.append_nil]
  generalize Lib.decDigits n = R at *
  have HD := Lib.hid hD
  clear hD
  go_enter Tryd.func28, Tryd.ntmps28
  go_wp2
  go_loopw [0, 4] (fun x v wr => ∃ (u : Nat) (l : List UInt8), x = .int .i64 (u : Int) ∧ u ≤ n ∧ v = .string ⟨l.toArray⟩ ∧ Hid (decU u ++ l = R) ∧ l.length + u ≤ n ∧ Below w.heap.size w wr) (fun x _ _ => (intOf x).toNat)
  case atStart => exact ⟨n, [], rfl, Nat.le_refl _, rfl, HD, by simp, Below.refl _ _⟩
  case round =>
    obtain ⟨u, l, rfl, hu, rfl, hl, hln, hB⟩ := hrel
    by_cases hu0 : u = 0
    · subst hu0
      go_wp2
      go_ret
      refine ⟨?_, hB⟩
      rw [← hl.out]
      rfl
    · have hne : ((u : Int) != 0) = true := by rw [bne_iff_ne]; omega
      have hs := Lib.hid (decU_step (u := u) (by omega) l)
      have hb : ((UInt8.ofNat (48 + u % 10)).toNat : Int) = 48 + (u : Int) % 10 := by rw [ofNat_toNat (by omega)]; omega
      generalize UInt8.ofNat (48 + u % 10) = b at *
      have HB := Lib.hid hb
      have ha := Lib.hid (bappend [b] ⟨l.toArray⟩)
      clear hb
      go_wp2_with (refine wpList_str_one Tryd.underlying54 Tryd.underlying5 Tryd.underlying9 b ?_ rfl ?_; rotate_left)
      · go_roundw
        case rel => exact ⟨u / 10, _, by go_num, by omega, congrArg Value.string ha.out, by rw [← hl.out, hs.out]; rfl, by simp; omega, hB.alloc hB.size _⟩
        case measure => simp [intOf]; omega
      · exact HB.out.symm
end Go.Proofs.YtpncnkihfijmaaaDoor
