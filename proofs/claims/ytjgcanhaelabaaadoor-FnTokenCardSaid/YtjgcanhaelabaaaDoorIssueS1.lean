/-
  spec.Issue where it gives one out: the walk.
-/
import Derived.Test.YtjgcanhaelabaaaDoorTokOut
namespace Go.Proofs.YtjgcanhaelabaaaDoor
open Go.ChangeShapes Go.WideShapes Go.ChangeAt Go.RowKit Go.ChangeMaps
set_option maxRecDepth 10000
set_option linter.unusedSimpArgs false
set_option linter.unusedVariables false
set_option maxHeartbeats 4000000 in
theorem sIssue_one (l : List TK) (A : Option Addr) (cap : Nat) (hI r t : Int) (w : World) (hl : Lies w w.heap.size 4 A l.length (toksC l)) (hm : l.length ≤ 1099511627) (h400 : ¬ 400 < l.length) (hG : grantB hI r t = true) (ho : toksOkB l = true) (hfull : ¬ (l.length = 20 ∨ 999 < lastN l + 1)) :
    Calls Tryd.prog 15 #[.slice A l.length cap, .int .i64 hI, .int .i64 r, .int .i64 t] w (ToksMade (issueT l hI r t) w) := by
  have h400' : ¬ (400 : Int) < (l.length : Int) := by omega
  have HO : Hid (∀ W : World, Below w.heap.size w W → Calls Tryd.prog 20 #[.slice A l.length cap] W fun e w' => e = .returned (.bool (toksOkB l)) ∧ Below W.heap.size W w') := fun W hW => sTokensRight_any l A cap W (hl.on hW) hm
  have Hh : Hid (∀ W : World, Calls Tryd.prog 38 #[.int .i64 hI] W fun e w' => e = .returned (.bool (inB hI 1 4)) ∧ W = w') := fun W => l03HouseT_any hI W
  have Hr : Hid (∀ W : World, Calls Tryd.prog 26 #[.int .i64 r, .int .i64 1, .int .i64 3] W fun e w' => e = .returned (.bool (inB r 1 3)) ∧ W = w') := fun W => l02Is_any _ _ _ W
  have Ht : Hid (∀ W : World, Calls Tryd.prog 26 #[.int .i64 t, .int .i64 0, .int .i64 1000000] W fun e w' => e = .returned (.bool (inB t 0 1000000)) ∧ W = w') := fun W => l02Is_any _ _ _ W
  have hGG := hG
  simp only [grantB, Bool.and_eq_true] at hGG
  rw [hGG.1] at Hh
  rw [hGG.2.1] at Hr
  rw [hGG.2.2] at Ht
  rw [ho] at HO
  clear hGG
  have hlen := toks_len ho
  have hbd := lastN_bound ho
  have HLs : Hid (∀ W : World, Below w.heap.size w W → 0 < l.length → ∃ b off, A = some ⟨b, off, none⟩ ∧ W.cell? ⟨b, off + (l.length - 1) * 4, none⟩ = some (.int .i64 (lastN l))) := fun W hW h0 => by
    obtain ⟨b, off, x, rfl, _, hx, c0, -⟩ := (hl.below hW).tok (show l.length - 1 < l.length by omega)
    exact ⟨b, off, rfl, by rw [lastN, if_neg (by omega), tAt_of hx]; exact c0⟩
  have HL0 : Hid (l.length = 0 → lastN l = 0) := fun hI => if_pos hI
  generalize hN : lastN l = N at *
  have HR : Hid (issueT l hI r t = (l ++ [⟨N + 1, hI, r, t⟩], N + 1, 0)) := by
    have := issue_one (l := l) (h := hI) (r := r) (t := t) h400 ho hG (by rw [hN]; exact hfull)
    rwa [hN] at this
  have HLB : Hid (∀ W : World, Below w.heap.size w W → Lies W w.heap.size 4 A l.length (toksC l)) := fun W hW => hl.below hW
  have h20' : ¬ (20 : Int) ≤ (l.length : Int) := by omega
  have h20n : ¬ 20 ≤ l.length := by omega
  have h999 : ¬ (999 : Int) < N + 1 := by omega
  clear hl ho hN hG
  by_cases h0 : l.length = 0
  · obtain rfl : N = 0 := HL0.out h0
    obtain rfl : l = [] := List.eq_nil_of_length_eq_zero h0
    clear HL0 h0 HLs h20' h20n hlen h400 h400' hm hfull
    simp only [List.length_nil] at *
    go_enter Tryd.func15, Tryd.ntmps15
    go_wp2_with fail
    refine (HO.out _ (by go_grown)).mono ?_
    rintro e w1 ⟨rfl, hb1⟩
    have X1 := (Block.new w #[.slice none 0 0, .int .i64 0, .int .i64 0] 28).on hb1
    have hB1 : Below w.heap.size w w1 := ((Below.refl _ w).alloc (Nat.le_refl _) _).trans (hb1.mono (by simp))
    have hz1 : w.heap.size + 1 ≤ w1.heap.size := X1.lt
    have hL1 := HLB.out w1 hB1
    clear hb1
    go_wp2_with (first
    | (at_builtin; have hq := HO2.out; refine wpList_append_elem Tryd.underlying24 info_tok rfl (by decide) (by decide) (w.heap.size + 1) _ _ _ rfl hq rfl rfl (fun u hu => toksC_one [⟨0 + 1, hI, r, t⟩] u (by simpa [toksC, tokC] using hu)) (by omega) (by omega) ?_; intro v2 w2 hown2 hb2; obtain ⟨A2, c2, rfl, -, -⟩ := own_form hown2; clear hq; have X3 := X2.below hb2 (by omega); have q1 := X3.cell; have f1 := X3.free; have hlt := X3.lt)
    | (at_builtin; refine wpList_append_lies Tryd.underlying24 info_tok rfl (by decide) (by decide) (w.heap.size + 1) _ 0 [] rfl (World.ownsRow_lit w1 #[] 0 (by omega) (by simp) rfl) w.heap.size _ _ _ _ rfl (hL1.below ((Below.refl _ _).alloc (by omega) _)) (toksC_one _) (by omega) (by simp; omega) ?_; intro v1 wa hown1 hg1; have hBa := (hB1.alloc (by omega) _).grown hg1 (by simp; omega) (fun k e => by have e1 := Option.some.inj e; simp at e1; omega); have X2 := (X1.alloc (.cells #[] 39)).kept hg1 (fun e => by have e1 := Option.some.inj e; simp at e1; omega); have hza : w.heap.size + 1 ≤ wa.heap.size := X2.lt; have HO2 := Lib.hid hown1; clear hown1 hg1)
    | (go_at_call 38; refine (Hh.out _).mono ?_; rintro e w' ⟨rfl, rfl⟩) | (go_at_call 26; (first | (with_reducible refine (Hr.out _).mono ?_) | (with_reducible refine (Ht.out _).mono ?_)); rintro e w' ⟨rfl, rfl⟩))
    refine bodyPost_ret (v := .agg #[.slice A2 (0 + 1) c2, .int .i64 (0 + 1), .int .i64 0]) (by simp [results, Tryd.results15, go_sem, q1, f1, hlt, Nat.ne_of_lt hlt]) rfl ?_
    exact toksMade_row HR.out (row_out hown2 (Nat.lt_succ_self _) _ _ _) (by simp) (by simp [toksC, tokC]) (by simp) (below_out (hBa.trans (hb2.mono (Nat.le_succ _))) (Nat.le_refl _) _ _ _)
  · clear HL0
    have h0' : (0 : Int) < (l.length : Int) := by omega
    have hw1 : IntKind.i64.wrap ((l.length : Int) - 1) = (l.length : Int) - 1 := IntWalk.i64_in _ (by omega)
    have hw2 : (0 : Int) ≤ (l.length : Int) - 1 := by omega
    have hw3 : ((l.length : Int) - 1).toNat = l.length - 1 := by omega
    have hw4 : (l.length : Int) - 1 < (l.length : Int) := by omega
    have hw5 : IntKind.i64.wrap (N + 1) = N + 1 := IntWalk.i64_in _ (by omega)
    go_enter Tryd.func15, Tryd.ntmps15
    go_wp2_with fail
    refine (HO.out _ (by go_grown)).mono ?_
    rintro e w1 ⟨rfl, hb1⟩
    have X1 := (Block.new w #[.slice none 0 0, .int .i64 0, .int .i64 0] 28).on hb1
    have hB1 : Below w.heap.size w w1 := ((Below.refl _ w).alloc (Nat.le_refl _) _).trans (hb1.mono (by simp))
    have hz1 : w.heap.size + 1 ≤ w1.heap.size := X1.lt
    have hL1 := HLB.out w1 hB1
    obtain ⟨b, off, rfl, c0⟩ := HLs.out w1 hB1 (by omega)
    clear hb1 HLs
    go_wp2_with (first
    | (at_builtin; have hq := HO2.out; refine wpList_append_elem Tryd.underlying24 info_tok rfl (by decide) (by decide) (w.heap.size + 1) _ _ _ rfl hq rfl rfl (fun u hu => toksC_one [⟨N + 1, hI, r, t⟩] u (by simpa [toksC, tokC] using hu)) (by omega) (by omega) ?_; intro v2 w2 hown2 hb2; obtain ⟨A2, c2, rfl, -, -⟩ := own_form hown2; clear hq; have X3 := X2.below hb2 (by omega); have q1 := X3.cell; have f1 := X3.free; have hlt := X3.lt)
    | (at_builtin; refine wpList_append_lies Tryd.underlying24 info_tok rfl (by decide) (by decide) (w.heap.size + 1) _ 0 [] rfl (World.ownsRow_lit w1 #[] 0 (by omega) (by simp) rfl) w.heap.size _ _ _ _ rfl (hL1.below ((Below.refl _ _).alloc (by omega) _)) (toksC_one _) (by omega) (by simp; omega) ?_; intro v1 wa hown1 hg1; have hBa := (hB1.alloc (by omega) _).grown hg1 (by simp; omega) (fun k e => by have e1 := Option.some.inj e; simp at e1; omega); have X2 := (X1.alloc (.cells #[] 39)).kept hg1 (fun e => by have e1 := Option.some.inj e; simp at e1; omega); have hza : w.heap.size + 1 ≤ wa.heap.size := X2.lt; have HO2 := Lib.hid hown1; clear hown1 hg1)
    | (go_at_call 38; refine (Hh.out _).mono ?_; rintro e w' ⟨rfl, rfl⟩) | (go_at_call 26; (first | (with_reducible refine (Hr.out _).mono ?_) | (with_reducible refine (Ht.out _).mono ?_)); rintro e w' ⟨rfl, rfl⟩))
    refine bodyPost_ret (v := .agg #[.slice A2 (l.length + 1) c2, .int .i64 (N + 1), .int .i64 0]) (by simp [results, Tryd.results15, go_sem, q1, f1, hlt, Nat.ne_of_lt hlt]) rfl ?_
    exact toksMade_row HR.out (row_out hown2 (Nat.lt_succ_self _) _ _ _) (by simp) (by simp [toksC, tokC]) (by simp) (below_out (hBa.trans (hb2.mono (Nat.le_succ _))) (Nat.le_refl _) _ _ _)
end Go.Proofs.YtjgcanhaelabaaaDoor
