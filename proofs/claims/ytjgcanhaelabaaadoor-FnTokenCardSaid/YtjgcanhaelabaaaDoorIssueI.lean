/-
  impl.Issue: the walk.
-/
import Derived.Test.YtjgcanhaelabaaaDoorIssueP
import Derived.Test.YtjgcanhaelabaaaDoorStepApp
namespace Go.Proofs.YtjgcanhaelabaaaDoor
open Go.ChangeShapes Go.WideShapes Go.ChangeAt Go.RowKit Go.ChangeMaps
set_option maxRecDepth 10000
set_option linter.unusedSimpArgs false
set_option linter.unusedVariables false

set_option maxHeartbeats 4000000 in
theorem iIssue_one (l : List TK) (A : Option Addr) (cap : Nat) (hI r t : Int) (w : World) (hl : Lies w w.heap.size 4 A l.length (toksC l)) (hm : l.length ≤ 1099511626) (h400 : ¬ 400 < l.length) (hG : grantB hI r t = true) (ho : toksOkB l = true) (hfull : ¬ (l.length = 20 ∨ 999 < lastN l + 1)) :
    Calls Tryd.prog 9 #[.slice A l.length cap, .int .i64 hI, .int .i64 r, .int .i64 t] w (ToksMade (issueT l hI r t) w) := by
  have HR : Hid (issueT l hI r t = (l ++ [⟨lastN l + 1, hI, r, t⟩], lastN l + 1, 0)) := issue_one h400 ho hG hfull
  have h400' : ¬ (400 : Int) < (l.length : Int) := by omega
  have HO : Hid (∀ W : World, Below w.heap.size w W → Calls Tryd.prog 19 #[.slice A l.length cap] W fun e w' => e = .returned (.bool (toksOkB l)) ∧ Below W.heap.size W w') := fun W hW => iTokensRight_any l A cap W (hl.on hW) (by omega)
  have HGR : Hid (∀ W : World, Calls Tryd.prog 32 #[.int .i64 hI, .int .i64 r, .int .i64 t] W fun e w' => e = .returned (.bool (grantB hI r t)) ∧ W = w') := fun W => grantRight_any hI r t W
  have HLN : Hid (∀ W : World, Below w.heap.size w W → Calls Tryd.prog 33 #[.slice A l.length cap] W fun e w' => e = .returned (.int .i64 (lastN l)) ∧ W = w') := fun W hW => lastNo_any l A cap W (hl.on hW) (by omega)
  rw [ho] at HO
  rw [hG] at HGR
  have HC : Hid (∀ W : World, Below w.heap.size w W → w.heap.size + 1 ≤ W.heap.size → Calls Tryd.prog 34 #[.slice A l.length cap] W fun e w' => (∃ (B : Option Addr) (c : Nat), e = .returned (.slice B l.length c) ∧ w'.ownsRow (w.heap.size + 1) 39 4 (.slice B l.length c) l.length (toksC l)) ∧ Below W.heap.size W w' ∧ Below w.heap.size w w') :=
    fun W hW hz => (cloneT_any l A cap W (hl.on hW) hm).mono fun e w' ⟨⟨B, c, h1, h2⟩, h3⟩ => ⟨⟨B, c, h1, ownsRow_base h2 hz⟩, h3, hW.trans (h3.mono hW.size)⟩
  have hlen := toks_len ho
  have hbd := lastN_bound ho
  have h20 : ((l.length : Int) == 20) = false := beq_eq_false_iff_ne.2 (by omega)
  have h20n : ¬ l.length = 20 := by omega
  have h999 : ¬ (999 : Int) < lastN l + 1 := by omega
  have hw5 : IntKind.i64.wrap (lastN l + 1) = lastN l + 1 := IntWalk.i64_in _ (by omega)
  have mixed : Tryd.prog.follows .mixedOrders = true := by kernel_rfl
  clear hl ho hG hfull
  generalize lastN l = N at *
  go_enter Tryd.func9, Tryd.ntmps9
  go_wp2_with fail
  refine (HO.out _ (by go_grown)).mono ?_
  rintro e w1 ⟨rfl, hb1⟩
  have X0 := (Block.new w #[.slice none 0 0, .int .i64 0, .int .i64 0] 28).on hb1
  have hB : Below w.heap.size w w1 := ((Below.refl _ w).alloc (Nat.le_refl _) _).trans (hb1.mono (by simp))
  have hz1 : w.heap.size + 1 ≤ w1.heap.size := X0.lt
  have hzz : w.heap.size ≤ w1.heap.size := hB.size
  have X1 := X0.alloc (.cells #[.int .i64 (N + 1), .int .i64 hI, .int .i64 r, .int .i64 t] 39)
  have Y1 := Block.new w1 #[.int .i64 (N + 1), .int .i64 hI, .int .i64 r, .int .i64 t] 39
  have y1 := Y1.cell
  clear hb1 X0
  go_wp2_with (first | (go_at_call 32; refine (HGR.out _).mono ?_; rintro e w' ⟨rfl, rfl⟩) | (go_at_call 33; refine (HLN.out _ (by first | exact hB | go_grown)).mono ?_; rintro e w' ⟨rfl, rfl⟩))
  go_region_law (first
    | (refine step_app (c := 1) rfl _ _ 24 rfl Tryd.underlying24 info_tok rfl (by decide) (by decide) hown2 (by simp [Act.eval, Act.put]) (lies_block Z2 rfl) (by simp [Act.eval, Act.put]) (fun u hu => toksC_one [⟨N + 1, hI, r, t⟩] u (by simpa [toksC, tokC] using hu)) (by omega) (by have := X2.lt; omega) ?_; intro A3 c3 w3 hown3 hg3; have X3 := X2.kept hg3 (fun e => by have := (hown2.lt _ e.symm).1; omega); have q3 := X3.cell; have f3 := X3.free; have hlt3 := X3.lt; have hB3 := hB2.grown hg3 (by have := X2.lt; omega) (fun g e => by have := (hown2.lt _ e).1; omega))
    | ((fail_if_success (have hq := hown2)); go_simp; go_wp2_with (go_at_call 34; refine (HC.out _ (by go_grown) (by simp; omega)).mono ?_; rintro e w2 ⟨⟨B2, c2, rfl, hown2⟩, hb2, hB2⟩; (first | (have X2 := X1.drew.on hb2; have Y2 := Y1.drew.on hb2) | (have X2 := (X1.alloc (.cells #[.int .i64 (N + 1), .int .i64 hI, .int .i64 r, .int .i64 t] 39)).drew.on hb2; have Z2 := (Block.new (w1.alloc (.cells #[.int .i64 (N + 1), .int .i64 hI, .int .i64 r, .int .i64 t] 39)) #[.int .i64 (N + 1), .int .i64 hI, .int .i64 r, .int .i64 t] 39).drew.on hb2)); have q2 := X2.cell; (try have y2 := Y2.cell)))
    | (refine step_app (c := 1) rfl _ _ 24 rfl Tryd.underlying24 info_tok rfl (by decide) (by decide) (hown2.alloc (.cells #[.int .i64 (N + 1), .int .i64 hI, .int .i64 r, .int .i64 t] 39)) (by simp [Act.eval, Act.put]) (lies_block (Block.new w2 #[.int .i64 (N + 1), .int .i64 hI, .int .i64 r, .int .i64 t] 39) rfl) (by simp [Act.eval, Act.put]) (fun u hu => toksC_one [⟨N + 1, hI, r, t⟩] u (by simpa [toksC, tokC] using hu)) (by omega) (by have := X2.lt; simp; omega) ?_; intro A3 c3 w3 hown3 hg3; have X3 := (X2.alloc (.cells #[.int .i64 (N + 1), .int .i64 hI, .int .i64 r, .int .i64 t] 39)).kept hg3 (fun e => by have := (hown2.lt _ e.symm).1; omega); have q3 := X3.cell; have f3 := X3.free; have hlt3 := X3.lt; have hB3 := (hB2.alloc (by have := X2.lt; omega) _).grown hg3 (by have := X2.lt; simp; omega) (fun g e => by have := (hown2.lt _ e).1; omega)))
  all_goals
    go_wp2_with fail
    refine bodyPost_ret (v := outV A3 (l.length + 1) c3 (N + 1) 0) (by simp [results, Tryd.results9, go_sem, q3, f3, hlt3, Nat.ne_of_lt hlt3]) rfl ?_
    exact toksMade_row HR.out (row_out hown3 (Nat.lt_succ_self _) _ _ _) (by simp) (by simp [toksC, tokC]) (by simp) (below_out hB3 (Nat.le_refl _) _ _ _)

set_option maxHeartbeats 4000000 in
theorem iIssue_any (l : List TK) (A : Option Addr) (cap : Nat) (hI r t : Int) (w : World) (hl : Lies w w.heap.size 4 A l.length (toksC l)) (hm : l.length ≤ 1099511626) :
    Calls Tryd.prog 9 #[.slice A l.length cap, .int .i64 hI, .int .i64 r, .int .i64 t] w (ToksMade (issueT l hI r t) w) := by
  have HSUCC : ¬ 400 < l.length → grantB hI r t = true → toksOkB l = true → ¬ (l.length = 20 ∨ 999 < lastN l + 1) → Calls Tryd.prog 9 #[.slice A l.length cap, .int .i64 hI, .int .i64 r, .int .i64 t] w (ToksMade (issueT l hI r t) w) := fun h4 => iIssue_one l A cap hI r t w hl hm h4
  by_cases h400 : 400 < l.length
  · have HR := Lib.hid (issue_big (h := hI) (r := r) (t := t) h400)
    clear hl HSUCC
    go_enter Tryd.func9, Tryd.ntmps9
    go_wp2
    refine bodyPost_ret (v := outV none 0 0 0 2) (by simp [results, Tryd.results9, go_sem]) rfl ?_
    exact toksMade_err HR.out rfl (by go_grown)
  have h400' : ¬ (400 : Int) < (l.length : Int) := by omega
  have HO : Hid (∀ W : World, Below w.heap.size w W → Calls Tryd.prog 19 #[.slice A l.length cap] W fun e w' => e = .returned (.bool (toksOkB l)) ∧ Below W.heap.size W w') := fun W hW => iTokensRight_any l A cap W (hl.on hW) (by omega)
  have HGR : Hid (∀ W : World, Calls Tryd.prog 32 #[.int .i64 hI, .int .i64 r, .int .i64 t] W fun e w' => e = .returned (.bool (grantB hI r t)) ∧ W = w') := fun W => grantRight_any hI r t W
  have HLN : Hid (∀ W : World, Below w.heap.size w W → Calls Tryd.prog 33 #[.slice A l.length cap] W fun e w' => e = .returned (.int .i64 (lastN l)) ∧ W = w') := fun W hW => lastNo_any l A cap W (hl.on hW) (by omega)
  cases ho : toksOkB l
  · rw [ho] at HO
    have HR : Hid (issueT l hI r t = ([], 0, 1)) := issue_form h400 (.inl ho)
    clear hl ho HSUCC
    go_enter Tryd.func9, Tryd.ntmps9
    go_wp2_with fail
    refine (HO.out _ (by go_grown)).mono ?_
    rintro e w1 ⟨rfl, hb1⟩
    have X1 := (Block.new w #[.slice none 0 0, .int .i64 0, .int .i64 0] 28).on hb1
    have hB : Below w.heap.size w w1 := ((Below.refl _ w).alloc (Nat.le_refl _) _).trans (hb1.mono (by simp))
    have q1 := X1.cell
    have f1 := X1.free
    have hlt := X1.lt
    clear hb1
    go_wp2_with fail
    refine bodyPost_ret (v := outV none 0 0 0 1) (by simp [results, Tryd.results9, go_sem, q1, f1, hlt, Nat.ne_of_lt hlt]) rfl ?_
    exact toksMade_err HR.out rfl (below_out hB (Nat.le_refl _) _ _ _)
  rw [ho] at HO
  cases hG : grantB hI r t
  · rw [hG] at HGR
    have HR : Hid (issueT l hI r t = ([], 0, 1)) := issue_form h400 (.inr hG)
    clear hl ho HSUCC hG
    go_enter Tryd.func9, Tryd.ntmps9
    go_wp2_with fail
    refine (HO.out _ (by go_grown)).mono ?_
    rintro e w1 ⟨rfl, hb1⟩
    have X1 := (Block.new w #[.slice none 0 0, .int .i64 0, .int .i64 0] 28).on hb1
    have hB : Below w.heap.size w w1 := ((Below.refl _ w).alloc (Nat.le_refl _) _).trans (hb1.mono (by simp))
    have q1 := X1.cell
    have f1 := X1.free
    have hlt := X1.lt
    clear hb1
    go_wp2_with (first | (go_at_call 32; refine (HGR.out _).mono ?_; rintro e w' ⟨rfl, rfl⟩) | (go_at_call 33; refine (HLN.out _ (by first | exact hB | go_grown)).mono ?_; rintro e w' ⟨rfl, rfl⟩))
    refine bodyPost_ret (v := outV none 0 0 0 1) (by simp [results, Tryd.results9, go_sem, q1, f1, hlt, Nat.ne_of_lt hlt]) rfl ?_
    exact toksMade_err HR.out rfl (below_out hB (Nat.le_refl _) _ _ _)
  rw [hG] at HGR
  have hlen := toks_len ho
  have hbd := lastN_bound ho
  by_cases hfull : l.length = 20 ∨ 999 < lastN l + 1
  · have hw5 : IntKind.i64.wrap (lastN l + 1) = lastN l + 1 := IntWalk.i64_in _ (by omega)
    by_cases h20 : l.length = 20
    · have h20' : ((l.length : Int) == 20) = true := by rw [h20]; rfl
      have h20n : decide (l.length = 20) = true := decide_eq_true h20
      have hm' := hm
      have HR : Hid (issueT l hI r t = ([], 0, 9)) := issue_full h400 ho hG hfull
      replace h20 := Lib.hid h20
      clear hl ho HSUCC hG hfull
      go_enter Tryd.func9, Tryd.ntmps9
      go_wp2_with fail
      refine (HO.out _ (by go_grown)).mono ?_
      rintro e w1 ⟨rfl, hb1⟩
      have X1 := (Block.new w #[.slice none 0 0, .int .i64 0, .int .i64 0] 28).on hb1
      have hB : Below w.heap.size w w1 := ((Below.refl _ w).alloc (Nat.le_refl _) _).trans (hb1.mono (by simp))
      have q1 := X1.cell
      have f1 := X1.free
      have hlt := X1.lt
      clear hb1
      go_wp2_with (first | (go_at_call 32; refine (HGR.out _).mono ?_; rintro e w' ⟨rfl, rfl⟩) | (go_at_call 33; refine (HLN.out _ (by first | exact hB | go_grown)).mono ?_; rintro e w' ⟨rfl, rfl⟩))
      refine bodyPost_ret (v := outV none 0 0 0 9) (by simp [results, Tryd.results9, go_sem, q1, f1, hlt, Nat.ne_of_lt hlt]) rfl ?_
      exact toksMade_err HR.out rfl (below_out hB (Nat.le_refl _) _ _ _)
    · have h20' : ((l.length : Int) == 20) = false := beq_eq_false_iff_ne.2 (by omega)
      have h999 : 999 < lastN l + 1 := by omega
      have HR : Hid (issueT l hI r t = ([], 0, 9)) := issue_full h400 ho hG hfull
      clear hl ho HSUCC hG hfull
      go_enter Tryd.func9, Tryd.ntmps9
      go_wp2_with fail
      refine (HO.out _ (by go_grown)).mono ?_
      rintro e w1 ⟨rfl, hb1⟩
      have X1 := (Block.new w #[.slice none 0 0, .int .i64 0, .int .i64 0] 28).on hb1
      have hB : Below w.heap.size w w1 := ((Below.refl _ w).alloc (Nat.le_refl _) _).trans (hb1.mono (by simp))
      have q1 := X1.cell
      have f1 := X1.free
      have hlt := X1.lt
      clear hb1
      go_wp2_with (first | (go_at_call 32; refine (HGR.out _).mono ?_; rintro e w' ⟨rfl, rfl⟩) | (go_at_call 33; refine (HLN.out _ (by first | exact hB | go_grown)).mono ?_; rintro e w' ⟨rfl, rfl⟩))
      refine bodyPost_ret (v := outV none 0 0 0 9) (by simp [results, Tryd.results9, go_sem, q1, f1, hlt, Nat.ne_of_lt hlt]) rfl ?_
      exact toksMade_err HR.out rfl (below_out hB (Nat.le_refl _) _ _ _)
  exact HSUCC h400 hG ho hfull
end Go.Proofs.YtjgcanhaelabaaaDoor
