/-
  spec.SeatRead answers 'seatReadT'.
-/
import Derived.Test.YtpncnkihfijmaaaGreatDoorM12
import Derived.Deep.RegionWith
namespace Go.Proofs.YtpncnkihfijmaaaGreatDoor
open Go.ChangeShapes Go.WideShapes Go.ChangeAt Go.RowKit Go.ChangeMaps
set_option maxRecDepth 10000
set_option linter.unusedSimpArgs false
set_option linter.unusedVariables false

theorem seatReadT_two {s : ByteArray} (hs : s.size < 2) : seatReadT s = (0, 0, 3) := by rw [seatReadT, if_neg (by omega), if_neg (by omega)]

set_option maxHeartbeats 1000000 in
theorem sSeatRead_short (s : ByteArray) (w : World) (hs : 8000 < s.size ∨ s.size < 2) (hm : s.size ≤ 1048576) : Calls Tryz.prog 92 #[.string s] w fun e w' => e = .returned (seatOutV (seatReadT s)) ∧ Below w.heap.size w w' := by
  rcases hs with hs | hs
  · rw [seatReadT_long hs]
    go_enter Tryz.func92, Tryz.ntmps92
    go_wp2
    refine bodyPost_ret (v := seatOutV (0, 0, 2)) (by simp [results, Tryz.results92, go_sem]) rfl ?_
    exact ⟨rfl, by go_grown⟩
  · rw [seatReadT_two hs]
    go_enter Tryz.func92, Tryz.ntmps92
    go_wp2
    refine bodyPost_ret (v := seatOutV (0, 0, 3)) (by simp [results, Tryz.results92, go_sem]) rfl ?_
    exact ⟨rfl, by go_grown⟩

set_option maxHeartbeats 2000000 in
theorem sSeatRead_long (s : ByteArray) (w : World) (h8 : s.size ≤ 8000) (h2 : 2 ≤ s.size) : Calls Tryz.prog 92 #[.string s] w fun e w' => e = .returned (seatOutV (seatReadT s)) ∧ Below w.heap.size w w' := by
  have hin : (s.extract 0 (s.size - 1)).size ≤ maxLen := by unfold maxLen; simp; omega
  have hr := numI_bound (s.extract 0 (s.size - 1)).data.toList
  have hlast : (s[s.size - 1].toNat : Int) = lastI s := lastI_at (by omega)
  have hl0 : 0 ≤ lastI s := by unfold lastI; omega
  have hl1 : lastI s < 256 := by rw [← hlast]; have := UInt8.toNat_lt s[s.size - 1]; omega
  have HN : Hid (∀ W : World, Calls Tryz.prog 41 #[.string (s.extract 0 (s.size - 1))] W fun e w' => e = .returned (.int .i64 (numI (s.extract 0 (s.size - 1)).data.toList)) ∧ W = w') := fun W => l02Num_any _ W hin
  have HT : Hid (∀ W : World, Calls Tryz.prog 118 #[seatV (numI (s.extract 0 (s.size - 1)).data.toList) (lastI s - 97)] W fun e w' => e = .returned (.string ⟨(seatTextL (numI (s.extract 0 (s.size - 1)).data.toList) (lastI s - 97)).toArray⟩) ∧ Below W.heap.size W w') := fun W => sSeatText_any _ _ W
  have hR : seatReadT s = if (⟨(seatTextL (numI (s.extract 0 (s.size - 1)).data.toList) (lastI s - 97)).toArray⟩ : ByteArray) = s then (numI (s.extract 0 (s.size - 1)).data.toList, lastI s - 97, 0) else (0, 0, 3) := by
    rw [seatReadT, if_neg (by omega)]
    by_cases hq : (⟨(seatTextL (numI (s.extract 0 (s.size - 1)).data.toList) (lastI s - 97)).toArray⟩ : ByteArray) = s
    · rw [if_pos ⟨h2, hq⟩, if_pos hq]
    · rw [if_neg (fun h => hq h.2), if_neg hq]
  generalize (⟨(seatTextL (numI (s.extract 0 (s.size - 1)).data.toList) (lastI s - 97)).toArray⟩ : ByteArray) = T at *
  generalize numI (s.extract 0 (s.size - 1)).data.toList = r at *
  generalize lastI s = L at *
  have hsl : ∀ W : World, (Instr.slice 9 (.string s) none (some (.int .i64 ((s.size : Int) - 1))) none).run Tryz.prog W = .ok (.string (s.extract 0 (s.size - 1))) W := fun W => by
    have h1 : (0 : Int) ≤ (s.size : Int) - 1 := by omega
    have h2 : (s.size : Int) - 1 ≤ (s.size : Int) := by omega
    have h3 : ((s.size : Int) - 1).toNat = s.size - 1 := by omega
    have h4 : s.size - 1 ≤ s.size := by omega
    simp [Instr.slice, Instr.sliceBounds, Instr.sliceBound, asIntOf, run_underlying Tryz.underlying9, h1, h2, h3, h4]
    intro hc
    omega
  have hix : ∀ W : World, (Instr.index 9 (.string s) (.int .i64 ((s.size : Int) - 1))).run Tryz.prog W = .ok (.int .u8 L) W := fun W => by
    rw [run_index_string _ _ _ _ _ Tryz.underlying9, dif_pos ⟨by omega, by omega⟩, ← hlast]
    have h3 : ((s.size : Int) - 1).toNat = s.size - 1 := by omega
    simp only [h3]
  have hw1 : IntKind.i64.wrap ((s.size : Int) - 1) = (s.size : Int) - 1 := IntWalk.i64_in _ (by omega)
  have hw2 : IntKind.i64.wrap (L - 97) = L - 97 := IntWalk.i64_in _ (by omega)
  have hw3 : IntKind.i64.wrap L = L := IntWalk.i64_in _ (by omega)
  have HL := Lib.hid hlast
  have HR := Lib.hid hR
  clear hlast hR hin hr
  by_cases hq : T = s
  all_goals
    first
      | (rw [if_pos hq] at HR; rw [HR.out]; subst hq)
      | (rw [if_neg hq] at HR; rw [HR.out]; have hne := str_ne hq; clear hq)
    clear HR
  all_goals
    go_enter Tryz.func92, Tryz.ntmps92
    go_wp2_with fail
    go_region_with (go_at_call 41; refine (HN.out _).mono ?_; rintro e w' ⟨rfl, rfl⟩)
    all_goals
      clear hsl hix
      go_wp2_with fail
      refine (HT.out _).mono ?_
      rintro e w2 ⟨rfl, hb2⟩
      have hz : w.heap.size + 1 < w2.heap.size := by have := hb2.size; simp at this; omega
      have hB : Below w.heap.size w w2 := (((Below.refl _ _).alloc (Nat.le_refl _) _ |>.alloc (by simp) _).drew).trans (hb2.mono (by simp; omega))
      have d0 := kc hb2 (b := w.heap.size) (i := 0) (v := .int .i64 0) (by go_simp) (by simp; omega)
      have d1 := kc hb2 (b := w.heap.size) (i := 1) (v := .int .i64 0) (by go_simp) (by simp; omega)
      have d2 := kc hb2 (b := w.heap.size) (i := 2) (v := .int .i64 0) (by go_simp) (by simp; omega)
      have f0' := kf hb2 (b := w.heap.size) (i := 0) (by go_simp) (by simp; omega)
      have f1' := kf hb2 (b := w.heap.size) (i := 1) (by go_simp) (by simp; omega)
      have f2' := kf hb2 (b := w.heap.size) (i := 2) (by go_simp) (by simp; omega)
      have e0 := kc hb2 (b := w.heap.size + 1) (i := 0) (v := .int .i64 r) (by go_simp) (by simp)
      have e1 := kc hb2 (b := w.heap.size + 1) (i := 1) (v := .int .i64 (L - 97)) (by go_simp) (by simp)
      clear hb2
      go_wp2_with fail
      first
        | (refine bodyPost_ret (v := seatOutV (r, L - 97, 0)) (by simp [results, Tryz.results92, go_sem, d0, d1, d2, f0', f1', f2']; done) rfl ?_
           exact ⟨rfl, ((hB.setCell (by simp) _).setCell (by simp) _).setCell (by simp) _⟩)
        | (refine bodyPost_ret (v := seatOutV (0, 0, 3)) (by simp [results, Tryz.results92, go_sem, d0, d1, d2, f0', f1', f2']; done) rfl ?_
           exact ⟨rfl, ((hB.setCell (by simp) _).setCell (by simp) _).setCell (by simp) _⟩)

theorem sSeatRead_any (s : ByteArray) (w : World) (hm : s.size ≤ 1048576) : Calls Tryz.prog 92 #[.string s] w fun e w' => e = .returned (seatOutV (seatReadT s)) ∧ Below w.heap.size w w' := by
  by_cases h : 8000 < s.size ∨ s.size < 2
  · exact sSeatRead_short s w h hm
  · exact sSeatRead_long s w (by omega) (by omega)
end Go.Proofs.YtpncnkihfijmaaaGreatDoor
