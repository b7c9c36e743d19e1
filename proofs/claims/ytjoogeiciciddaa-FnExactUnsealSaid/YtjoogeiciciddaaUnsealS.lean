/-
  Unseal: the walks.
-/
import Derived.Test.YtjoogeiciciddaaUnseal
import Derived.Handy
import Derived.LoopN
import Derived.Deep.RegionWith
namespace Go.Proofs.Ytjoogeiciciddaa
open Go.ChangeShapes Go.WideShapes Go.ChangeAt Go.RowKit Go.ChangeMaps
set_option linter.unusedSimpArgs false
set_option linter.unusedVariables false
theorem undrew {B : Nat} {W w1 : World} (h : Below B W.drew w1) : Below B W w1 := ⟨h.os, h.tape, h.output, h.size, h.block⟩
theorem seal_parts {s : ByteArray} (h : s.size ≤ 8000) (h4 : 4 ≤ s.size) : sealS (innerS s) = s ↔ ByteArray.mk (fourL (crcOf 0 (innerS s).data.toList)).toArray = s.extract (s.size - 4) s.size := by
  have hsz : (innerS s).size ≤ 7996 := by simp [innerS]; omega
  have e : innerS s ++ s.extract (s.size - 4) s.size = s := by
    rw [innerS]
    simp
  have hl : ∀ F : ByteArray, innerS s ++ F = s ↔ F = s.extract (s.size - 4) s.size := by
    intro F
    constructor
    · intro hh
      have h2 := hh.trans e.symm
      rw [ByteArray.ext_iff] at h2 ⊢
      simp only [ByteArray.data_append] at h2
      exact (Array.append_right_inj _).1 h2
    · intro hh
      rw [hh]; exact e
  rw [sealS, sealL, if_neg (by omega), ← bappend']
  exact hl _

set_option maxHeartbeats 2000000 in
theorem sUnseal_any (s : ByteArray) (w : World) (hs : s.size ≤ 1048576) : Calls Try.prog 22 #[.string s] w fun e w' => e = .returned (unsealV s) ∧ Below w.heap.size w w' := by
  by_cases h : 8000 < s.size
  · have HV := Lib.hid (unsealV_long h)
    go_enter Try.func22, Try.ntmps22
    go_wp2_with fail
    go_returns
    exact ⟨by rw [HV.out]; rfl, by go_grown⟩
  by_cases h4 : s.size < 4
  · have HV := Lib.hid (unsealV_short h4)
    go_enter Try.func22, Try.ntmps22
    go_wp2_with fail
    go_returns
    exact ⟨by rw [HV.out]; rfl, by go_grown⟩
  have hin : (innerS s).size ≤ s.size - 4 := by simp [innerS]
  have hlt : crcOf 0 (innerS s).data.toList < 4294967296 := crcOf_lt (by omega)
  have hE : Hid (s.extract 0 (s.size - 4) = innerS s) := rfl
  have hp := seal_parts (s := s) (by omega) (by omega)
  have HK : ∀ W : World, Calls Try.prog 31 #[.int .i64 0, .string (innerS s)] W fun e w' => e = .returned (.int .i64 (crcOf 0 (innerS s).data.toList)) ∧ W = w' := fun W => l01Crc_yes 0 (innerS s) W (by omega) (by omega)
  have HF : ∀ W : World, Calls Try.prog 33 #[.int .i64 (crcOf 0 (innerS s).data.toList)] W fun e w' => e = .returned (.string ⟨(fourL (crcOf 0 (innerS s).data.toList)).toArray⟩) ∧ Below W.heap.size W w' := fun W => l01Four_any _ hlt W
  have HKK := Lib.hid HK
  have HFF := Lib.hid HF
  clear HK HF
  generalize ByteArray.mk (fourL (crcOf 0 (innerS s).data.toList)).toArray = F at *
  generalize crcOf 0 (innerS s).data.toList = C at *
  by_cases hq : sealS (innerS s) = s
  · have HV := Lib.hid (unsealV_yes (by omega) (by omega) hq)
    have hd := hp.1 hq
    clear hp hq
    generalize innerS s = I at *
    have HD := Lib.hid hd
    clear hd
    have q1 : IntKind.i64.wrap ((s.size : Int) - 4) = (s.size : Int) - 4 := IntWalk.i64_in _ (by omega)
    have q2 : 0 ≤ (s.size : Int) - 4 := by omega
    have q3 : ((s.size : Int) - 4).toNat = s.size - 4 := by omega
    go_enter Try.func22, Try.ntmps22
    go_wp2_with fail
    rw [hE.out]
    go_region_with (first
      | (go_at_call 31; refine (HKK.out _).mono ?_; rintro e w1 ⟨rfl, rfl⟩)
      | (go_at_call 33; refine (HFF.out _).mono ?_; rintro e w1 ⟨rfl, hb1⟩))
    all_goals
      rw [← HD.out]
      replace hb1 := undrew hb1
      obtain ⟨d0, f0⟩ := newcell (w := w) hb1 0 rfl
      obtain ⟨d1, f1⟩ := newcell (w := w) hb1 1 rfl
      obtain ⟨d2, f2⟩ := newcell (w := w) hb1 2 rfl
      go_wp2_with fail
      · exfalso
        have hx : (!F.toList == F.toList) = true := by assumption
        simp at hx
      refine bodyPost_ret (v := textOut I 0 0) (by simp [results, Try.results22, textOut, go_sem, d0, d1, d2]) rfl ?_
      exact ⟨by rw [HV.out], (((((Below.refl _ _).alloc (Nat.le_refl _) _).trans (hb1.mono (by simp))).setCell (by simp) _).setCell (by simp) _).setCell (by simp) _⟩
  · have HV := Lib.hid (unsealV_no (by omega) (by omega) hq)
    have hd := str_ne (fun hh => hq (hp.2 hh))
    clear hp hq
    generalize innerS s = I at *
    have HD := Lib.hid hd
    clear hd
    have q1 : IntKind.i64.wrap ((s.size : Int) - 4) = (s.size : Int) - 4 := IntWalk.i64_in _ (by omega)
    have q2 : 0 ≤ (s.size : Int) - 4 := by omega
    have q3 : ((s.size : Int) - 4).toNat = s.size - 4 := by omega
    go_enter Try.func22, Try.ntmps22
    go_wp2_with fail
    rw [hE.out]
    go_region_with (first
      | (go_at_call 31; refine (HKK.out _).mono ?_; rintro e w1 ⟨rfl, rfl⟩)
      | (go_at_call 33; refine (HFF.out _).mono ?_; rintro e w1 ⟨rfl, hb1⟩))
    all_goals
      replace hb1 := undrew hb1
      obtain ⟨d0, f0⟩ := newcell (w := w) hb1 0 rfl
      obtain ⟨d1, f1⟩ := newcell (w := w) hb1 1 rfl
      obtain ⟨d2, f2⟩ := newcell (w := w) hb1 2 rfl
      go_wp2_with fail
      · refine bodyPost_ret (v := textOut ⟨#[]⟩ 0 5) (by simp [results, Try.results22, textOut, go_sem, d0, d1, d2]) rfl ?_
        exact ⟨by rw [HV.out], (((((Below.refl _ _).alloc (Nat.le_refl _) _).trans (hb1.mono (by simp))).setCell (by simp) _).setCell (by simp) _).setCell (by simp) _⟩
      · exfalso
        have hx : (!F.toList == (s.extract (s.size - 4) s.size).toList) = false := by assumption
        rw [HD.out] at hx
        cases hx

theorem unsealV_text (s : ByteArray) : ∃ t c, unsealV s = textOut t 0 c := by
  unfold unsealV
  split
  · exact ⟨_, _, rfl⟩
  split
  · exact ⟨_, _, rfl⟩
  split
  · exact ⟨_, _, rfl⟩
  · exact ⟨_, _, rfl⟩

end Go.Proofs.Ytjoogeiciciddaa
