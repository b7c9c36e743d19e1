/-
  spec.Issue: the walk.
-/
import Derived.Test.YtjgcanhaelabaaaDoorIssueS1
namespace Go.Proofs.YtjgcanhaelabaaaDoor
open Go.ChangeShapes Go.WideShapes Go.ChangeAt Go.RowKit Go.ChangeMaps
set_option maxRecDepth 10000
set_option linter.unusedSimpArgs false
set_option linter.unusedVariables false

set_option maxHeartbeats 4000000 in
theorem sIssue_any (l : List TK) (A : Option Addr) (cap : Nat) (hI r t : Int) (w : World) (hl : Lies w w.heap.size 4 A l.length (toksC l)) (hm : l.length ≤ 1099511627) :
    Calls Tryd.prog 15 #[.slice A l.length cap, .int .i64 hI, .int .i64 r, .int .i64 t] w (ToksMade (issueT l hI r t) w) := by
  have HSUCC : ¬ 400 < l.length → grantB hI r t = true → toksOkB l = true → ¬ (l.length = 20 ∨ 999 < lastN l + 1) → Calls Tryd.prog 15 #[.slice A l.length cap, .int .i64 hI, .int .i64 r, .int .i64 t] w (ToksMade (issueT l hI r t) w) := fun h4 => sIssue_one l A cap hI r t w hl hm h4
  by_cases h400 : 400 < l.length
  · have HR := Lib.hid (issue_big (h := hI) (r := r) (t := t) h400)
    clear hl
    go_enter Tryd.func15, Tryd.ntmps15
    go_wp2
    refine bodyPost_ret (v := outV none 0 0 0 2) (by simp [results, Tryd.results15, go_sem]) rfl ?_
    exact toksMade_err HR.out rfl (by go_grown)
  have h400' : ¬ (400 : Int) < (l.length : Int) := by omega
  have HO : Hid (∀ W : World, Below w.heap.size w W → Calls Tryd.prog 20 #[.slice A l.length cap] W fun e w' => e = .returned (.bool (toksOkB l)) ∧ Below W.heap.size W w') := fun W hW => sTokensRight_any l A cap W (hl.on hW) hm
  have Hh : Hid (∀ W : World, Calls Tryd.prog 38 #[.int .i64 hI] W fun e w' => e = .returned (.bool (inB hI 1 4)) ∧ W = w') := fun W => l03HouseT_any hI W
  have Hr : Hid (∀ W : World, Calls Tryd.prog 26 #[.int .i64 r, .int .i64 1, .int .i64 3] W fun e w' => e = .returned (.bool (inB r 1 3)) ∧ W = w') := fun W => l02Is_any _ _ _ W
  have Ht : Hid (∀ W : World, Calls Tryd.prog 26 #[.int .i64 t, .int .i64 0, .int .i64 1000000] W fun e w' => e = .returned (.bool (inB t 0 1000000)) ∧ W = w') := fun W => l02Is_any _ _ _ W
  have HG : Hid (grantB hI r t = (inB hI 1 4 && (inB r 1 3 && inB t 0 1000000))) := rfl
  generalize inB hI 1 4 = bh at *
  generalize inB r 1 3 = br at *
  generalize inB t 0 1000000 = bt at *
  cases ho : toksOkB l
  · rw [ho] at HO
    have HR : Hid (issueT l hI r t = ([], 0, 1)) := issue_form h400 (.inl ho)
    clear hl ho HG
    go_enter Tryd.func15, Tryd.ntmps15
    go_wp2_with fail
    refine (HO.out _ (by go_grown)).mono ?_
    rintro e w1 ⟨rfl, hb1⟩
    have X1 := (Block.new w #[.slice none 0 0, .int .i64 0, .int .i64 0] 28).on hb1
    have hB : Below w.heap.size w w1 := ((Below.refl _ w).alloc (Nat.le_refl _) _).trans (hb1.mono (by simp))
    have q1 := X1.cell
    have f1 := X1.free
    have hlt := X1.lt
    clear hb1
    go_wp2_with fail
    refine bodyPost_ret (v := outV none 0 0 0 1) (by simp [results, Tryd.results15, go_sem, q1, f1, hlt, Nat.ne_of_lt hlt]) rfl ?_
    exact toksMade_err HR.out rfl (below_out hB (Nat.le_refl _) _ _ _)
  rw [ho] at HO
  cases bh
  · have HR : Hid (issueT l hI r t = ([], 0, 1)) := issue_form h400 (.inr (by rw [HG.out]; rfl))
    clear hl ho HG
    go_enter Tryd.func15, Tryd.ntmps15
    go_wp2_with fail
    refine (HO.out _ (by go_grown)).mono ?_
    rintro e w1 ⟨rfl, hb1⟩
    have X1 := (Block.new w #[.slice none 0 0, .int .i64 0, .int .i64 0] 28).on hb1
    have hB : Below w.heap.size w w1 := ((Below.refl _ w).alloc (Nat.le_refl _) _).trans (hb1.mono (by simp))
    have q1 := X1.cell
    have f1 := X1.free
    have hlt := X1.lt
    clear hb1
    go_wp2_with (first | (go_at_call 38; refine (Hh.out _).mono ?_; rintro e w' ⟨rfl, rfl⟩) | (go_at_call 26; (first | (with_reducible refine (Hr.out _).mono ?_) | (with_reducible refine (Ht.out _).mono ?_)); rintro e w' ⟨rfl, rfl⟩))
    refine bodyPost_ret (v := outV none 0 0 0 1) (by simp [results, Tryd.results15, go_sem, q1, f1, hlt, Nat.ne_of_lt hlt]) rfl ?_
    exact toksMade_err HR.out rfl (below_out hB (Nat.le_refl _) _ _ _)
  cases br
  · have HR : Hid (issueT l hI r t = ([], 0, 1)) := issue_form h400 (.inr (by rw [HG.out]; rfl))
    clear hl ho HG
    go_enter Tryd.func15, Tryd.ntmps15
    go_wp2_with fail
    refine (HO.out _ (by go_grown)).mono ?_
    rintro e w1 ⟨rfl, hb1⟩
    have X1 := (Block.new w #[.slice none 0 0, .int .i64 0, .int .i64 0] 28).on hb1
    have hB : Below w.heap.size w w1 := ((Below.refl _ w).alloc (Nat.le_refl _) _).trans (hb1.mono (by simp))
    have q1 := X1.cell
    have f1 := X1.free
    have hlt := X1.lt
    clear hb1
    go_wp2_with (first | (go_at_call 38; refine (Hh.out _).mono ?_; rintro e w' ⟨rfl, rfl⟩) | (go_at_call 26; (first | (with_reducible refine (Hr.out _).mono ?_) | (with_reducible refine (Ht.out _).mono ?_)); rintro e w' ⟨rfl, rfl⟩))
    refine bodyPost_ret (v := outV none 0 0 0 1) (by simp [results, Tryd.results15, go_sem, q1, f1, hlt, Nat.ne_of_lt hlt]) rfl ?_
    exact toksMade_err HR.out rfl (below_out hB (Nat.le_refl _) _ _ _)
  cases bt
  · have HR : Hid (issueT l hI r t = ([], 0, 1)) := issue_form h400 (.inr (by rw [HG.out]; rfl))
    clear hl ho HG
    go_enter Tryd.func15, Tryd.ntmps15
    go_wp2_with fail
    refine (HO.out _ (by go_grown)).mono ?_
    rintro e w1 ⟨rfl, hb1⟩
    have X1 := (Block.new w #[.slice none 0 0, .int .i64 0, .int .i64 0] 28).on hb1
    have hB : Below w.heap.size w w1 := ((Below.refl _ w).alloc (Nat.le_refl _) _).trans (hb1.mono (by simp))
    have q1 := X1.cell
    have f1 := X1.free
    have hlt := X1.lt
    clear hb1
    go_wp2_with (first | (go_at_call 38; refine (Hh.out _).mono ?_; rintro e w' ⟨rfl, rfl⟩) | (go_at_call 26; (first | (with_reducible refine (Hr.out _).mono ?_) | (with_reducible refine (Ht.out _).mono ?_)); rintro e w' ⟨rfl, rfl⟩))
    refine bodyPost_ret (v := outV none 0 0 0 1) (by simp [results, Tryd.results15, go_sem, q1, f1, hlt, Nat.ne_of_lt hlt]) rfl ?_
    exact toksMade_err HR.out rfl (below_out hB (Nat.le_refl _) _ _ _)
  have hG : grantB hI r t = true := HG.out
  have hlen := toks_len ho
  have hbd := lastN_bound ho
  have HLs : Hid (∀ W : World, Below w.heap.size w W → 0 < l.length → ∃ b off, A = some ⟨b, off, none⟩ ∧ W.cell? ⟨b, off + (l.length - 1) * 4, none⟩ = some (.int .i64 (lastN l))) := fun W hW h0 => by
    obtain ⟨b, off, x, rfl, _, hx, c0, -⟩ := (hl.below hW).tok (show l.length - 1 < l.length by omega)
    exact ⟨b, off, rfl, by rw [lastN, if_neg (by omega), tAt_of hx]; exact c0⟩
  have HL0 : Hid (l.length = 0 → lastN l = 0) := fun hI => if_pos hI
  clear HG
  generalize hN : lastN l = N at *
  by_cases hfull : l.length = 20 ∨ 999 < N + 1
  · have HR : Hid (issueT l hI r t = ([], 0, 9)) := issue_full h400 ho hG (by rw [hN]; exact hfull)
    have h0 : 0 < l.length := by
      rcases Nat.eq_zero_or_pos l.length with h0 | h0
      · have := HL0.out h0
        omega
      · exact h0
    clear hl ho hN HL0 hG
    go_enter Tryd.func15, Tryd.ntmps15
    go_wp2_with fail
    refine (HO.out _ (by go_grown)).mono ?_
    rintro e w1 ⟨rfl, hb1⟩
    have X1 := (Block.new w #[.slice none 0 0, .int .i64 0, .int .i64 0] 28).on hb1
    have hB : Below w.heap.size w w1 := ((Below.refl _ w).alloc (Nat.le_refl _) _).trans (hb1.mono (by simp))
    obtain ⟨b, off, rfl, c0⟩ := HLs.out w1 hB h0
    have q1 := X1.cell
    have f1 := X1.free
    have hlt := X1.lt
    have h0' : (0 : Int) < (l.length : Int) := by omega
    have hw1 : IntKind.i64.wrap ((l.length : Int) - 1) = (l.length : Int) - 1 := IntWalk.i64_in _ (by omega)
    have hw2 : (0 : Int) ≤ (l.length : Int) - 1 := by omega
    have hw3 : ((l.length : Int) - 1).toNat = l.length - 1 := by omega
    have hw4 : (l.length : Int) - 1 < (l.length : Int) := by omega
    have hw5 : IntKind.i64.wrap (N + 1) = N + 1 := IntWalk.i64_in _ (by omega)
    clear hb1 HLs
    by_cases h20 : l.length = 20
    · have h20' : (20 : Int) ≤ (l.length : Int) := by omega
      have h20n : 20 ≤ l.length := by omega
      have H20 := Lib.hid h20
      clear h20
      go_wp2_with (first | (go_at_call 38; refine (Hh.out _).mono ?_; rintro e w' ⟨rfl, rfl⟩) | (go_at_call 26; (first | (with_reducible refine (Hr.out _).mono ?_) | (with_reducible refine (Ht.out _).mono ?_)); rintro e w' ⟨rfl, rfl⟩))
      refine bodyPost_ret (v := outV none 0 0 0 9) (by simp [results, Tryd.results15, go_sem, q1, f1, hlt, Nat.ne_of_lt hlt]) rfl ?_
      exact toksMade_err HR.out rfl (below_out hB (Nat.le_refl _) _ _ _)
    · have h20' : ¬ (20 : Int) ≤ (l.length : Int) := by omega
      have h20n : ¬ 20 ≤ l.length := by omega
      clear h20
      have h999 : 999 < N + 1 := by omega
      go_wp2_with (first | (go_at_call 38; refine (Hh.out _).mono ?_; rintro e w' ⟨rfl, rfl⟩) | (go_at_call 26; (first | (with_reducible refine (Hr.out _).mono ?_) | (with_reducible refine (Ht.out _).mono ?_)); rintro e w' ⟨rfl, rfl⟩))
      refine bodyPost_ret (v := outV none 0 0 0 9) (by simp [results, Tryd.results15, go_sem, q1, f1, hlt, Nat.ne_of_lt hlt]) rfl ?_
      exact toksMade_err HR.out rfl (below_out hB (Nat.le_refl _) _ _ _)
  exact HSUCC h400 hG ho hfull
end Go.Proofs.YtjgcanhaelabaaaDoor
