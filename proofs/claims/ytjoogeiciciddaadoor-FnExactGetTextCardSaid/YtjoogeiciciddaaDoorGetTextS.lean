/-
  spec.GetText: the walk.
-/
import Derived.Test.YtjoogeiciciddaaDoorGetS
import Derived.Test.YtjoogeiciciddaaDoorGetText
import Derived.Deep.QuietTactic
import Derived.BigQuiet
import Derived.StillTailTactics
import Derived.Handy
namespace Go.Proofs.YtjoogeiciciddaaDoor
open Go.ChangeShapes Go.WideShapes Go.ChangeAt Go.RowKit Go.ChangeMaps
set_option linter.unusedSimpArgs false
set_option linter.unusedVariables false

theorem text_ret {t u : ByteArray} {b d q c : Int} (h1 : t = u) (h2 : b = q) (h3 : d = c) : Ending.returned (.agg #[.string t, .int .i64 b, .int .i64 d]) = .returned (textOut u q c) := by rw [h1, h2, h3]; rfl

set_option maxRecDepth 8000 in
set_option maxHeartbeats 1000000 in
theorem sGetText_any (s : ByteArray) (p : Int) (t : ByteArray) (q c : Int) (w : World) (h1 : -9223372036854775808 ≤ p) (h2 : p ≤ 9223372036854775807) (hT : getT s p = (t, q, c)) :
    Calls Tryd.prog 8 #[.string s, .int .i64 p] w fun e w' => e = .returned (textOut t q c) ∧ Below w.heap.size w w' := by
  obtain ⟨n, a, d, hR⟩ : ∃ n a d, getN s p = (n, a, d) := ⟨_, _, _, rfl⟩
  have HR : Hid (∀ W : World, Calls Tryd.prog 5 #[.string s, .int .i64 p] W fun e w' => e = .returned (.agg #[.int .i64 n, .int .i64 a, .int .i64 d]) ∧ Below W.heap.size W w') := fun W => sGetNum_any s p n a d W h1 h2 hR
  rw [getT_of hR] at hT
  have HP : Hid (d = 0 → s.size ≤ 8000 ∧ 0 ≤ a ∧ a ≤ s.size) := fun h => getN_place (by rw [hR, h])
  clear hR h1 h2
  by_cases hd : d = 0
  · obtain ⟨hs8, ha0, has⟩ := HP.out hd
    subst hd
    by_cases hn : n < 0 ∨ 8000 < n
    · rw [getTof_range hn] at hT
      have Q := Lib.hid (parts3T hT)
      clear hT
      rcases hn with hn | hn
      all_goals
        go_enter Tryd.func8, Tryd.ntmps8
        go_wp2_with fail
        refine (HR.out _).mono ?_
        rintro e w1 ⟨rfl, hb1⟩
        obtain ⟨d0, f0⟩ := newcell (w := w) hb1 0 rfl
        obtain ⟨d1, f1⟩ := newcell (w := w) hb1 1 rfl
        obtain ⟨d2, f2⟩ := newcell (w := w) hb1 2 rfl
        have hz1 : w.heap.size < w1.heap.size := by have := hb1.size; simp at this; omega
        go_wp2_with fail
        refine bodyPost_ret (v := textOut ⟨#[]⟩ 0 3) (by simp [results, Tryd.results8, textOut, go_sem, d0, d1, d2, hz1, Nat.ne_of_lt hz1]) rfl ?_
        obtain ⟨q1, q2, q3⟩ := Q.out
        exact ⟨text_ret q1 q2 q3, ((((((Below.refl _ _).alloc (Nat.le_refl _) _).trans (hb1.mono (by simp))).setCell (by simp) _).setCell (by simp) _).setCell (by simp) _).alloc (by simp [World.setCell]; omega) _⟩
    · have hn0 : 0 ≤ n := by omega
      have hn8 : n ≤ 8000 := by omega
      by_cases hl : (s.size : Int) < a + n
      · rw [getTof_short hn hl] at hT
        have Q := Lib.hid (parts3T hT)
        clear hT hn
        go_enter Tryd.func8, Tryd.ntmps8
        go_wp2_with fail
        refine (HR.out _).mono ?_
        rintro e w1 ⟨rfl, hb1⟩
        obtain ⟨d0, f0⟩ := newcell (w := w) hb1 0 rfl
        obtain ⟨d1, f1⟩ := newcell (w := w) hb1 1 rfl
        obtain ⟨d2, f2⟩ := newcell (w := w) hb1 2 rfl
        have hz1 : w.heap.size < w1.heap.size := by have := hb1.size; simp at this; omega
        go_wp2_with fail
        refine bodyPost_ret (v := textOut ⟨#[]⟩ 0 4) (by simp [results, Tryd.results8, textOut, go_sem, d0, d1, d2, hz1, Nat.ne_of_lt hz1]) rfl ?_
        obtain ⟨q1, q2, q3⟩ := Q.out
        exact ⟨text_ret q1 q2 q3, ((((((Below.refl _ _).alloc (Nat.le_refl _) _).trans (hb1.mono (by simp))).setCell (by simp) _).setCell (by simp) _).setCell (by simp) _).alloc (by simp [World.setCell]; omega) _⟩
      · rw [getTof_yes hn hl] at hT
        have Q := Lib.hid (parts3T hT)
        clear hT hn
        go_enter Tryd.func8, Tryd.ntmps8
        go_wp2_with fail
        refine (HR.out _).mono ?_
        rintro e w1 ⟨rfl, hb1⟩
        obtain ⟨d0, f0⟩ := newcell (w := w) hb1 0 rfl
        obtain ⟨d1, f1⟩ := newcell (w := w) hb1 1 rfl
        obtain ⟨d2, f2⟩ := newcell (w := w) hb1 2 rfl
        have hz1 : w.heap.size < w1.heap.size := by have := hb1.size; simp at this; omega
        go_wp2_with fail
        have q1 : IntKind.i64.wrap (a + n) = a + n := IntWalk.i64_in _ (by omega)
        have q2 : a ≤ a + n := by omega
        have q3 : a + n ≤ s.size := by omega
        have e0 : (w1.alloc (.cells #[.int .i64 n, .int .i64 a, .int .i64 0] 23)).cell? ⟨w1.heap.size, 0, none⟩ = some (.int .i64 n) := by simp
        have e1 : (w1.alloc (.cells #[.int .i64 n, .int .i64 a, .int .i64 0] 23)).cell? ⟨w1.heap.size, 1, none⟩ = some (.int .i64 a) := by simp
        have k0 := (World.cell?_alloc_lt w1 (.cells #[.int .i64 n, .int .i64 a, .int .i64 0] 23) ⟨w.heap.size, 0, none⟩ hz1).trans d0
        have k1 := (World.cell?_alloc_lt w1 (.cells #[.int .i64 n, .int .i64 a, .int .i64 0] 23) ⟨w.heap.size, 1, none⟩ hz1).trans d1
        have k2 := (World.cell?_alloc_lt w1 (.cells #[.int .i64 n, .int .i64 a, .int .i64 0] 23) ⟨w.heap.size, 2, none⟩ hz1).trans d2
        have l0 := (World.frozen?_alloc_old w1 (.cells #[.int .i64 n, .int .i64 a, .int .i64 0] 23) ⟨w.heap.size, 0, none⟩ (Nat.ne_of_lt hz1)).trans f0
        have l1 := (World.frozen?_alloc_old w1 (.cells #[.int .i64 n, .int .i64 a, .int .i64 0] 23) ⟨w.heap.size, 1, none⟩ (Nat.ne_of_lt hz1)).trans f1
        have l2 := (World.frozen?_alloc_old w1 (.cells #[.int .i64 n, .int .i64 a, .int .i64 0] 23) ⟨w.heap.size, 2, none⟩ (Nat.ne_of_lt hz1)).trans f2
        have hbel : Below w.heap.size w (w1.alloc (.cells #[.int .i64 n, .int .i64 a, .int .i64 0] 23)) := (((Below.refl _ _).alloc (Nat.le_refl _) _).trans (hb1.mono (by simp))).alloc (by omega) _
        clear d0 d1 d2 f0 f1 f2
        generalize w1.alloc (.cells #[.int .i64 n, .int .i64 a, .int .i64 0] 23) = W at *
        clear hb1
        go_still_tail 15, (by kernel_rfl)
        change wpList _ _ _ _ _ W.drew
        replace k0 : W.drew.cell? ⟨w.heap.size, 0, none⟩ = _ := k0
        replace k1 : W.drew.cell? ⟨w.heap.size, 1, none⟩ = _ := k1
        replace k2 : W.drew.cell? ⟨w.heap.size, 2, none⟩ = _ := k2
        replace l0 : W.drew.frozen? ⟨w.heap.size, 0, none⟩ = false := l0
        replace l1 : W.drew.frozen? ⟨w.heap.size, 1, none⟩ = false := l1
        replace l2 : W.drew.frozen? ⟨w.heap.size, 2, none⟩ = false := l2
        replace hbel : Below w.heap.size w W.drew := hbel.drew
        clear e0 e1
        generalize W.drew = W2 at *
        go_wp2_with fail
        refine bodyPost_ret (v := textOut (s.extract a.toNat (a + n).toNat) (a + n) 0) (by simp [results, Tryd.results8, textOut, go_sem, k0, k1, k2]) rfl ?_
        obtain ⟨r1, r2, r3⟩ := Q.out
        exact ⟨text_ret r1 r2 r3, ((hbel.setCell (by simp) _).setCell (by simp) _).setCell (by simp) _⟩
  · rw [getTof_code hd] at hT
    have Q := Lib.hid (parts3T hT)
    have hd' : ((d : Int) == 0) = false := by rw [beq_eq_false_iff_ne]; exact hd
    clear hT hd
    go_enter Tryd.func8, Tryd.ntmps8
    go_wp2_with fail
    refine (HR.out _).mono ?_
    rintro e w1 ⟨rfl, hb1⟩
    obtain ⟨d0, f0⟩ := newcell (w := w) hb1 0 rfl
    obtain ⟨d1, f1⟩ := newcell (w := w) hb1 1 rfl
    obtain ⟨d2, f2⟩ := newcell (w := w) hb1 2 rfl
    have hz1 : w.heap.size < w1.heap.size := by have := hb1.size; simp at this; omega
    go_wp2_with fail
    refine bodyPost_ret (v := textOut ⟨#[]⟩ 0 d) (by simp [results, Tryd.results8, textOut, go_sem, d0, d1, d2, hz1, Nat.ne_of_lt hz1]) rfl ?_
    obtain ⟨q1, q2, q3⟩ := Q.out
    exact ⟨text_ret q1 q2 q3, ((((((Below.refl _ _).alloc (Nat.le_refl _) _).trans (hb1.mono (by simp))).setCell (by simp) _).setCell (by simp) _).setCell (by simp) _).alloc (by simp [World.setCell]; omega) _⟩
end Go.Proofs.YtjoogeiciciddaaDoor
