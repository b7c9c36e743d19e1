/-
  impl.Issue: the walk.
-/
import Derived.Test.YtjgcanhaelabaaaIssueP
import Derived.Deep.RegionLaw
namespace Go.Proofs.Ytjgcanhaelabaaa
open Go.ChangeShapes Go.WideShapes Go.ChangeAt Go.RowKit Go.ChangeMaps
set_option linter.unusedSimpArgs false
set_option linter.unusedVariables false

/-- append as one step of a region that draws. -/
theorem step_app {P : Program} {ops : Array Oper} {o : Oper} {a : Act} {w : World} {K : Act → World → Prop} {Q : Exit → Act → World → Prop} {E : Prop} (hg : o.guard = none) (s x : Operand) (t : TypeId) (hop : o.op = Op.call { callee := Callee.builtin Builtin.append, args := #[s, x], argTypes := #[t, t] })
    {e : TypeId} {z : Value} {k bytes : Nat} (ht : P.underlying t = some (.slice e)) (hi : (P.info? e).map (fun i => (i.zero, i.size, i.bytes)) = some (some z, k, bytes)) (hzs : z.cells.size = k) (hk : 0 < k) (hby : bytes ≤ 1000)
    {base n : Nat} {v : Value} {xs : List Value} (hown : w.ownsRow base e k v n xs) (hs : a.eval s = v) {B m c : Nat} {A : Option Addr} {news : List Value} (hl : Lies w B k A m news) (hx : a.eval x = .slice A m c)
    (h1 : ∀ u ∈ news, u.oneCell' = true) (hlen : n + m ≤ 1099511627) (hbase : base ≤ w.heap.size)
    (h : ∀ A' c' w', w'.ownsRow base e k (.slice A' (n + m) c') (n + m) (xs ++ news) → w.grownBy w' v.ownBlock → K (a.put o.dst (.slice A' (n + m) c')) w') :
    if Region.wanted o (yielded ops a.tmps) = true then Oper.wp P o a w K Q else E := by
  have hw : Region.wanted o (yielded ops a.tmps) = true := by simp [Region.wanted, hg]
  rw [if_pos hw]
  obtain ⟨v', w', hr, h2, h3⟩ := run_append_lies (ty := o.type) (c := c) ht hi hzs hk hby hown hl h1 hlen hbase
  obtain ⟨A', c', rfl, -, -⟩ := own_form h2
  unfold Oper.wp
  simp [execOp, hop, resolve, invoke, builtin, hs, hx, hr, Result.andThen]
  exact h A' c' w' h2 h3
/-- What a block holds, read as one element. -/
theorem lies_block {w : World} {g : Nat} {t : TypeId} {cs : Array Value} (h : Block w g t cs) {k : Nat} (hk : cs.size = k) : Lies w w.heap.size k (some ⟨g, 0, none⟩) 1 cs.toList :=
  ⟨by simp [hk], fun _ => ⟨g, 0, rfl, h.lt, fun j u hu => by rw [Nat.zero_add, h.cell j]; simpa using hu⟩⟩

set_option maxHeartbeats 4000000 in
theorem iIssue_one (l : List TK) (A : Option Addr) (cap : Nat) (hI r t : Int) (w : World) (hl : Lies w w.heap.size 4 A l.length (toksC l)) (hm : l.length ≤ 1099511626) (h400 : ¬ 400 < l.length) (hG : grantB hI r t = true) (ho : toksOkB l = true) (hfull : ¬ (l.length = 20 ∨ 999 < lastN l + 1)) :
    Calls Try.prog 13 #[.slice A l.length cap, .int .i64 hI, .int .i64 r, .int .i64 t] w (ToksMade (issueT l hI r t) w) := by
  have HR : Hid (issueT l hI r t = (l ++ [⟨lastN l + 1, hI, r, t⟩], lastN l + 1, 0)) := issue_one h400 ho hG hfull
  have h400' : ¬ (400 : Int) < (l.length : Int) := by omega
  have HO : Hid (∀ W : World, Below w.heap.size w W → Calls Try.prog 10 #[.slice A l.length cap] W fun e w' => e = .returned (.bool (toksOkB l)) ∧ Below W.heap.size W w') := fun W hW => iTokensRight_any l A cap W (hl.on hW) (by omega)
  have HGR : Hid (∀ W : World, Calls Try.prog 26 #[.int .i64 hI, .int .i64 r, .int .i64 t] W fun e w' => e = .returned (.bool (grantB hI r t)) ∧ W = w') := fun W => grantRight_any hI r t W
  have HLN : Hid (∀ W : World, Below w.heap.size w W → Calls Try.prog 27 #[.slice A l.length cap] W fun e w' => e = .returned (.int .i64 (lastN l)) ∧ W = w') := fun W hW => lastNo_any l A cap W (hl.on hW) (by omega)
  rw [ho] at HO
  rw [hG] at HGR
  have HC : Hid (∀ W : World, Below w.heap.size w W → w.heap.size + 1 ≤ W.heap.size → Calls Try.prog 28 #[.slice A l.length cap] W fun e w' => (∃ (B : Option Addr) (c : Nat), e = .returned (.slice B l.length c) ∧ w'.ownsRow (w.heap.size + 1) 39 4 (.slice B l.length c) l.length (toksC l)) ∧ Below W.heap.size W w' ∧ Below w.heap.size w w') :=
    fun W hW hz => (cloneT_any l A cap W (hl.on hW) hm).mono fun e w' ⟨⟨B, c, h1, h2⟩, h3⟩ => ⟨⟨B, c, h1, ownsRow_base h2 hz⟩, h3, hW.trans (h3.mono hW.size)⟩
  have hlen := toks_len ho
  have hbd := lastN_bound ho
  have h20 : ((l.length : Int) == 20) = false := beq_eq_false_iff_ne.2 (by omega)
  have h20n : ¬ l.length = 20 := by omega
  have h999 : ¬ (999 : Int) < lastN l + 1 := by omega
  have hw5 : IntKind.i64.wrap (lastN l + 1) = lastN l + 1 := IntWalk.i64_in _ (by omega)
  have mixed : Try.prog.follows .mixedOrders = true := by kernel_rfl
  clear hl ho hG hfull
  generalize lastN l = N at *
  go_enter Try.func13, Try.ntmps13
  go_wp2_with fail
  refine (HO.out _ (by go_grown)).mono ?_
  rintro e w1 ⟨rfl, hb1⟩
  have X0 := (Block.new w #[.slice none 0 0, .int .i64 0, .int .i64 0] 30).on hb1
  have hB : Below w.heap.size w w1 := ((Below.refl _ w).alloc (Nat.le_refl _) _).trans (hb1.mono (by simp))
  have hz1 : w.heap.size + 1 ≤ w1.heap.size := X0.lt
  have hzz : w.heap.size ≤ w1.heap.size := hB.size
  have X1 := X0.alloc (.cells #[.int .i64 (N + 1), .int .i64 hI, .int .i64 r, .int .i64 t] 39)
  have Y1 := Block.new w1 #[.int .i64 (N + 1), .int .i64 hI, .int .i64 r, .int .i64 t] 39
  have y1 := Y1.cell
  clear hb1 X0
  go_wp2_with (first | (go_at_call 26; refine (HGR.out _).mono ?_; rintro e w' ⟨rfl, rfl⟩) | (go_at_call 27; refine (HLN.out _ (by first | exact hB | go_grown)).mono ?_; rintro e w' ⟨rfl, rfl⟩))
  go_region_law (first
    | (refine step_app (c := 1) rfl _ _ 25 rfl Try.underlying25 info_tok rfl (by decide) (by decide) hown2 (by simp [Act.eval, Act.put]) (lies_block Z2 rfl) (by simp [Act.eval, Act.put]) (fun u hu => toksC_one [⟨N + 1, hI, r, t⟩] u (by simpa [toksC, tokC] using hu)) (by omega) (by have := X2.lt; omega) ?_; intro A3 c3 w3 hown3 hg3; have X3 := X2.kept hg3 (fun e => by have := (hown2.lt _ e.symm).1; omega); have q3 := X3.cell; have f3 := X3.free; have hlt3 := X3.lt; have hB3 := hB2.grown hg3 (by have := X2.lt; omega) (fun g e => by have := (hown2.lt _ e).1; omega))
    | ((fail_if_success (have hq := hown2)); go_simp; go_wp2_with (go_at_call 28; refine (HC.out _ (by go_grown) (by simp; omega)).mono ?_; rintro e w2 ⟨⟨B2, c2, rfl, hown2⟩, hb2, hB2⟩; (first | (have X2 := X1.drew.on hb2; have Y2 := Y1.drew.on hb2) | (have X2 := (X1.alloc (.cells #[.int .i64 (N + 1), .int .i64 hI, .int .i64 r, .int .i64 t] 39)).drew.on hb2; have Z2 := (Block.new (w1.alloc (.cells #[.int .i64 (N + 1), .int .i64 hI, .int .i64 r, .int .i64 t] 39)) #[.int .i64 (N + 1), .int .i64 hI, .int .i64 r, .int .i64 t] 39).drew.on hb2)); have q2 := X2.cell; (try have y2 := Y2.cell)))
    | (refine step_app (c := 1) rfl _ _ 25 rfl Try.underlying25 info_tok rfl (by decide) (by decide) (hown2.alloc (.cells #[.int .i64 (N + 1), .int .i64 hI, .int .i64 r, .int .i64 t] 39)) (by simp [Act.eval, Act.put]) (lies_block (Block.new w2 #[.int .i64 (N + 1), .int .i64 hI, .int .i64 r, .int .i64 t] 39) rfl) (by simp [Act.eval, Act.put]) (fun u hu => toksC_one [⟨N + 1, hI, r, t⟩] u (by simpa [toksC, tokC] using hu)) (by omega) (by have := X2.lt; simp; omega) ?_; intro A3 c3 w3 hown3 hg3; have X3 := (X2.alloc (.cells #[.int .i64 (N + 1), .int .i64 hI, .int .i64 r, .int .i64 t] 39)).kept hg3 (fun e => by have := (hown2.lt _ e.symm).1; omega); have q3 := X3.cell; have f3 := X3.free; have hlt3 := X3.lt; have hB3 := (hB2.alloc (by have := X2.lt; omega) _).grown hg3 (by have := X2.lt; simp; omega) (fun g e => by have := (hown2.lt _ e).1; omega)))
  all_goals
    go_wp2_with fail
    refine bodyPost_ret (v := outV A3 (l.length + 1) c3 (N + 1) 0) (by simp [results, Try.results13, go_sem, q3, f3, hlt3, Nat.ne_of_lt hlt3]) rfl ?_
    exact toksMade_row HR.out (row_out hown3 (Nat.lt_succ_self _) _ _ _) (by simp) (by simp [toksC, tokC]) (by simp) (below_out hB3 (Nat.le_refl _) _ _ _)

set_option maxHeartbeats 4000000 in
theorem iIssue_any (l : List TK) (A : Option Addr) (cap : Nat) (hI r t : Int) (w : World) (hl : Lies w w.heap.size 4 A l.length (toksC l)) (hm : l.length ≤ 1099511626) :
    Calls Try.prog 13 #[.slice A l.length cap, .int .i64 hI, .int .i64 r, .int .i64 t] w (ToksMade (issueT l hI r t) w) := by
  have HSUCC : ¬ 400 < l.length → grantB hI r t = true → toksOkB l = true → ¬ (l.length = 20 ∨ 999 < lastN l + 1) → Calls Try.prog 13 #[.slice A l.length cap, .int .i64 hI, .int .i64 r, .int .i64 t] w (ToksMade (issueT l hI r t) w) := fun h4 => iIssue_one l A cap hI r t w hl hm h4
  by_cases h400 : 400 < l.length
  · have HR := Lib.hid (issue_big (h := hI) (r := r) (t := t) h400)
    clear hl HSUCC
    go_enter Try.func13, Try.ntmps13
    go_wp2
    refine bodyPost_ret (v := outV none 0 0 0 2) (by simp [results, Try.results13, go_sem]) rfl ?_
    exact toksMade_err HR.out rfl (by go_grown)
  have h400' : ¬ (400 : Int) < (l.length : Int) := by omega
  have HO : Hid (∀ W : World, Below w.heap.size w W → Calls Try.prog 10 #[.slice A l.length cap] W fun e w' => e = .returned (.bool (toksOkB l)) ∧ Below W.heap.size W w') := fun W hW => iTokensRight_any l A cap W (hl.on hW) (by omega)
  have HGR : Hid (∀ W : World, Calls Try.prog 26 #[.int .i64 hI, .int .i64 r, .int .i64 t] W fun e w' => e = .returned (.bool (grantB hI r t)) ∧ W = w') := fun W => grantRight_any hI r t W
  have HLN : Hid (∀ W : World, Below w.heap.size w W → Calls Try.prog 27 #[.slice A l.length cap] W fun e w' => e = .returned (.int .i64 (lastN l)) ∧ W = w') := fun W hW => lastNo_any l A cap W (hl.on hW) (by omega)
  cases ho : toksOkB l
  · rw [ho] at HO
    have HR : Hid (issueT l hI r t = ([], 0, 1)) := issue_form h400 (.inl ho)
    clear hl ho HSUCC
    go_enter Try.func13, Try.ntmps13
    go_wp2_with fail
    refine (HO.out _ (by go_grown)).mono ?_
    rintro e w1 ⟨rfl, hb1⟩
    have X1 := (Block.new w #[.slice none 0 0, .int .i64 0, .int .i64 0] 30).on hb1
    have hB : Below w.heap.size w w1 := ((Below.refl _ w).alloc (Nat.le_refl _) _).trans (hb1.mono (by simp))
    have q1 := X1.cell
    have f1 := X1.free
    have hlt := X1.lt
    clear hb1
    go_wp2_with fail
    refine bodyPost_ret (v := outV none 0 0 0 1) (by simp [results, Try.results13, go_sem, q1, f1, hlt, Nat.ne_of_lt hlt]) rfl ?_
    exact toksMade_err HR.out rfl (below_out hB (Nat.le_refl _) _ _ _)
  rw [ho] at HO
  cases hG : grantB hI r t
  · rw [hG] at HGR
    have HR : Hid (issueT l hI r t = ([], 0, 1)) := issue_form h400 (.inr hG)
    clear hl ho HSUCC hG
    go_enter Try.func13, Try.ntmps13
    go_wp2_with fail
    refine (HO.out _ (by go_grown)).mono ?_
    rintro e w1 ⟨rfl, hb1⟩
    have X1 := (Block.new w #[.slice none 0 0, .int .i64 0, .int .i64 0] 30).on hb1
    have hB : Below w.heap.size w w1 := ((Below.refl _ w).alloc (Nat.le_refl _) _).trans (hb1.mono (by simp))
    have q1 := X1.cell
    have f1 := X1.free
    have hlt := X1.lt
    clear hb1
    go_wp2_with (first | (go_at_call 26; refine (HGR.out _).mono ?_; rintro e w' ⟨rfl, rfl⟩) | (go_at_call 27; refine (HLN.out _ (by first | exact hB | go_grown)).mono ?_; rintro e w' ⟨rfl, rfl⟩))
    refine bodyPost_ret (v := outV none 0 0 0 1) (by simp [results, Try.results13, go_sem, q1, f1, hlt, Nat.ne_of_lt hlt]) rfl ?_
    exact toksMade_err HR.out rfl (below_out hB (Nat.le_refl _) _ _ _)
  rw [hG] at HGR
  have hlen := toks_len ho
  have hbd := lastN_bound ho
  by_cases hfull : l.length = 20 ∨ 999 < lastN l + 1
  · have hw5 : IntKind.i64.wrap (lastN l + 1) = lastN l + 1 := IntWalk.i64_in _ (by omega)
    by_cases h20 : l.length = 20
    · have h20' : ((l.length : Int) == 20) = true := by rw [h20]; rfl
      have h20n : decide (l.length = 20) = true := decide_eq_true h20
      have hm' := hm
      have HR : Hid (issueT l hI r t = ([], 0, 9)) := issue_full h400 ho hG hfull
      replace h20 := Lib.hid h20
      clear hl ho HSUCC hG hfull
      go_enter Try.func13, Try.ntmps13
      go_wp2_with fail
      refine (HO.out _ (by go_grown)).mono ?_
      rintro e w1 ⟨rfl, hb1⟩
      have X1 := (Block.new w #[.slice none 0 0, .int .i64 0, .int .i64 0] 30).on hb1
      have hB : Below w.heap.size w w1 := ((Below.refl _ w).alloc (Nat.le_refl _) _).trans (hb1.mono (by simp))
      have q1 := X1.cell
      have f1 := X1.free
      have hlt := X1.lt
      clear hb1
      go_wp2_with (first | (go_at_call 26; refine (HGR.out _).mono ?_; rintro e w' ⟨rfl, rfl⟩) | (go_at_call 27; refine (HLN.out _ (by first | exact hB | go_grown)).mono ?_; rintro e w' ⟨rfl, rfl⟩))
      refine bodyPost_ret (v := outV none 0 0 0 9) (by simp [results, Try.results13, go_sem, q1, f1, hlt, Nat.ne_of_lt hlt]) rfl ?_
      exact toksMade_err HR.out rfl (below_out hB (Nat.le_refl _) _ _ _)
    · have h20' : ((l.length : Int) == 20) = false := beq_eq_false_iff_ne.2 (by omega)
      have h999 : 999 < lastN l + 1 := by omega
      have HR : Hid (issueT l hI r t = ([], 0, 9)) := issue_full h400 ho hG hfull
      clear hl ho HSUCC hG hfull
      go_enter Try.func13, Try.ntmps13
      go_wp2_with fail
      refine (HO.out _ (by go_grown)).mono ?_
      rintro e w1 ⟨rfl, hb1⟩
      have X1 := (Block.new w #[.slice none 0 0, .int .i64 0, .int .i64 0] 30).on hb1
      have hB : Below w.heap.size w w1 := ((Below.refl _ w).alloc (Nat.le_refl _) _).trans (hb1.mono (by simp))
      have q1 := X1.cell
      have f1 := X1.free
      have hlt := X1.lt
      clear hb1
      go_wp2_with (first | (go_at_call 26; refine (HGR.out _).mono ?_; rintro e w' ⟨rfl, rfl⟩) | (go_at_call 27; refine (HLN.out _ (by first | exact hB | go_grown)).mono ?_; rintro e w' ⟨rfl, rfl⟩))
      refine bodyPost_ret (v := outV none 0 0 0 9) (by simp [results, Try.results13, go_sem, q1, f1, hlt, Nat.ne_of_lt hlt]) rfl ?_
      exact toksMade_err HR.out rfl (below_out hB (Nat.le_refl _) _ _ _)
  exact HSUCC h400 hG ho hfull
end Go.Proofs.Ytjgcanhaelabaaa
