/-
  SeatText: both functions write out a seat.
-/
import Derived.Test.YtpncnkihfijmaaaDoorShelf
import Derived.Test.YtpncnkihfijmaaaDoorSeatR
import Derived.Test.YtpncnkihfijmaaaDoorDec
import Derived.Deep.RegionHeld3
import Derived.Deep.RegionWith
namespace Go.Proofs.YtpncnkihfijmaaaDoor
open Go.ChangeShapes Go.WideShapes Go.ChangeAt Go.RowKit Go.ChangeMaps
set_option maxRecDepth 10000
set_option linter.unusedSimpArgs false
set_option linter.unusedVariables false

/-- What SeatText answers. -/
def seatTextL (r c : Int) : List UInt8 := if seatB r c = true then Lib.decDigits r.toNat ++ [UInt8.ofNat (97 + c.toNat)] else []
theorem seatB_parts {r c : Int} (h : seatB r c = true) : (1 ≤ r ∧ r ≤ 20) ∧ 0 ≤ c ∧ c ≤ 5 := by
  simp [seatB] at h
  exact ⟨⟨h.1, h.2.1⟩, h.2.2.1, h.2.2.2⟩

theorem formatSmall (n : Nat) (hn : n < 100) (w : World) : Calls Tryd.prog 31 #[.int .i64 n, .int .i64 10] w fun e w' => e = .returned (.string ⟨(Lib.decDigits n).toArray⟩) ∧ w = w' :=
  (Tryd.strconv_FormatInt_10_small n hn w).mono fun e w' h => ⟨h.1, h.2.symm⟩

set_option maxHeartbeats 1000000 in
theorem iSeatText_any (r c : Int) (w : World) : Calls Tryd.prog 90 #[seatV r c] w fun e w' => e = .returned (.string ⟨(seatTextL r c).toArray⟩) ∧ Below w.heap.size w w' := by
  have HS : Hid (∀ W : World, Calls Tryd.prog 89 #[seatV r c] W fun e w' => e = .returned (.bool (seatB r c)) ∧ Below W.heap.size W w') := fun W => iSeatRight_any r c W
  obtain ⟨b, hb⟩ : ∃ b, seatB r c = b := ⟨_, rfl⟩
  have HB := Lib.hid hb
  rw [hb] at HS
  cases b
  · clear hb
    go_enter Tryd.func90, Tryd.ntmps90
    go_wp2_with fail
    refine (HS.out _).mono ?_
    rintro e w1 ⟨rfl, hb1⟩
    go_wp2_with fail
    go_ret
    exact ⟨by rw [seatTextL, if_neg (by rw [HB.out]; simp)]; rfl, ((Below.refl _ _).alloc (Nat.le_refl _) _).trans (hb1.mono (by simp))⟩
  · obtain ⟨⟨r1, r2⟩, c1, c2⟩ := seatB_parts hb
    clear hb
    obtain ⟨r, rfl⟩ := nat_of (show 0 ≤ r by omega)
    obtain ⟨c, rfl⟩ := nat_of c1
    have HF : Hid (∀ W : World, Calls Tryd.prog 31 #[.int .i64 r, .int .i64 10] W fun e w' => e = .returned (.string ⟨(Lib.decDigits r).toArray⟩) ∧ W = w') := fun W => formatSmall r (by omega) W
    have HR : Hid (seatTextL (r : Int) (c : Int) = Lib.decDigits r ++ [UInt8.ofNat (97 + c)]) := by rw [Hid, seatTextL, if_pos HB.out]; rfl
    have hDl : (Lib.decDigits r).length ≤ 2 := by
      by_cases h : r < 10
      · rw [Lib.decDigits_one h]; simp
      · rw [Lib.decDigits_two h (by omega)]; simp
    generalize Lib.decDigits r = D at *
    have hlt : ((UInt8.ofNat (97 + c)).toNat : Int) = 97 + (c : Int) := by rw [ofNat_toNat (by omega)]; omega
    generalize UInt8.ofNat (97 + c) = b at *
    have HL := Lib.hid hlt
    clear hlt
    go_enter Tryd.func90, Tryd.ntmps90
    go_wp2_with fail
    refine (HS.out _).mono ?_
    rintro e w1 ⟨rfl, hb1⟩
    have hz : w.heap.size < w1.heap.size := by have := hb1.size; simp at this; omega
    have c00 := kc hb1 (b := w.heap.size) (i := 0) (v := .int .i64 r) (by go_simp) (by simp)
    have c01 := kc hb1 (b := w.heap.size) (i := 1) (v := .int .i64 c) (by go_simp) (by simp)
    have hB : Below w.heap.size w w1 := ((Below.refl _ _).alloc (Nat.le_refl _) _).trans (hb1.mono (by simp))
    have hBd := hB.drew
    clear hb1
    have hcv := run_str_one (P := Tryd.prog) w1 (e' := 5) Tryd.underlying54 Tryd.underlying5 Tryd.underlying9 b HL.out.symm
    go_wp2_with fail
    go_region_with (go_at_call 31; refine (HF.out _).mono ?_; rintro e w' ⟨rfl, rfl⟩)
    all_goals
      have ha := Lib.hid (bappend D ⟨[b].toArray⟩)
      clear hcv hBd c00 c01
      go_wp2
      go_ret
      refine ⟨?_, (hB.alloc (by omega) _).drew⟩
      rw [HR.out]
      exact congrArg (fun z => Ending.returned (.string z)) ha.out
end Go.Proofs.YtpncnkihfijmaaaDoor
