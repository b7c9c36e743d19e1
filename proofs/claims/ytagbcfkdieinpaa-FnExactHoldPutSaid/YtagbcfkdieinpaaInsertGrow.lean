/-
  slices.Insert of one hold into a row of the call's own: a new row.
-/
import Derived.Test.YtagbcfkdieinpaaInsertRoom
import Derived.Lib.AppendZerosOnto
namespace Go.Proofs.Ytagbcfkdieinpaa
open Go.ChangeShapes Go.WideShapes Go.ChangeAt Go.RowKit Go.ChangeMaps
set_option linter.unusedSimpArgs false
set_option linter.unusedVariables false

theorem grow_rows (P D R X : List Value) (hX : X.length = 3) (c : List Value) (hc : c = P ++ R) (o o2 : Nat) (h1 : o = P.length) (h2 : o2 = P.length + 3) :
    let r1 := c.take o ++ X ++ c.drop (o + X.length)
    r1.take o2 ++ D ++ r1.drop (o2 + D.length) = P ++ X ++ D ++ R.drop (3 + D.length) := by
  subst hc h1 h2
  dsimp only
  have e1 : (P ++ R).drop (P.length + X.length) = R.drop 3 := by rw [List.drop_append, List.drop_eq_nil_of_le (by omega), List.nil_append, Nat.add_sub_cancel_left, hX]
  have e2 : (P ++ X).length = P.length + 3 := by simp [hX]
  rw [List.take_left' rfl, e1, List.take_left' e2]
  have e3 : (P ++ X ++ R.drop 3).drop (P.length + 3 + D.length) = R.drop (3 + D.length) := by
    rw [List.drop_append, List.drop_eq_nil_of_le (by omega), List.nil_append, e2, Nat.add_sub_cancel_left, List.drop_drop]
  rw [e3]

set_option maxHeartbeats 4000000 in
set_option maxRecDepth 100000 in
theorem insert_grow (l : List HD) (x : HD) (g cap base vb i : Nat) (cur : Array Value) (W : World) (hi : i < l.length) (hg : W.heap[g]? = some (.cells cur 30 (0, 0))) (hcs : cur.size = cap * 3) (htk : cur.toList.take (l.length * 3) = holdsC l) (hnc : l.length ≤ cap) (hroom : cap < l.length + 1) (hm : l.length ≤ 1099511626)
    (hv : Block W vb 30 #[.string x.f, .int .i64 x.r, .int .i64 x.c]) (hbase : base ≤ W.heap.size) :
    Calls Try.prog 28 #[.slice (some ⟨g, 0, none⟩) l.length cap, .int .i64 (i : Int), .slice (some ⟨vb, 0, none⟩) 1 1] W fun e w' => ∃ v', e = .returned v' ∧ w'.ownsRow base 30 3 v' (l.length + 1) (holdsC (l.take i ++ ([x] ++ l.drop i))) ∧ Below base W w' := by
  obtain ⟨i0, hi0, hz0, hzs, hzb⟩ := info_parts info_hold
  have hsz : (Try.prog.info? 30).map (·.size) = some 3 := by kernel_rfl
  have hgw : g < W.heap.size := (Array.getElem?_eq_some_iff.1 hg).1
  have hPl : (holdsC (l.take i)).length = i * 3 := by rw [holdsC_length, take_len_le (by omega)]
  have hDl : (holdsC (l.drop i)).length = (l.length - i) * 3 := by rw [holdsC_length, List.length_drop]
  have hPD : holdsC l = holdsC (l.take i) ++ holdsC (l.drop i) := by rw [← holdsC_append, List.take_append_drop]
  have hcell : ∀ j u, (holdsC l)[j]? = some u → W.cell? ⟨g, j, none⟩ = some u := fun j u hu => by
    rw [cell_of_row W g j cur 30 (0, 0) hg]
    rw [← htk, List.getElem?_take] at hu
    split at hu
    · simpa using hu
    · cases hu
  have hold : (Builtin.firstCells i0.size i (.slice (some ⟨g, 0, none⟩) i cap)).run Try.prog W.drew = .ok (holdsC (l.take i)).toArray W.drew := by
    rw [hzs]
    exact run_firstCells_some W.drew 3 i ⟨g, 0, none⟩ i cap (holdsC (l.take i)) hPl (fun j u hj => by
      rw [Go.WideShapes.add_plain, Nat.zero_add]
      exact hcell j u (by rw [hPD, List.getElem?_append_left (List.getElem?_eq_some_iff.1 hj).1]; exact hj))
  have hik : i + (l.length + 1 - i) = l.length + 1 := by omega
  have hkk : (l.length : Int) + 1 - (i : Int) = ((l.length + 1 - i : Nat) : Int) := by omega
  obtain ⟨G, hG⟩ : ∃ G, G = grownCap W (l.length + 1) cap 30 := ⟨_, rfl⟩
  obtain ⟨ROW, hROW⟩ : ∃ ROW : Array Value, ROW = (holdsC (l.take i)).toArray ++ Builtin.zeroCells (Value.agg #[.string ⟨#[]⟩, .int .i64 0, .int .i64 0]).cells (l.length + 1 - i) ++ Builtin.zeroCells (Value.agg #[.string ⟨#[]⟩, .int .i64 0, .int .i64 0]).cells (G - (l.length + 1)) := ⟨_, rfl⟩
  obtain ⟨W1, hW1⟩ : ∃ W1, W1 = W.drew.alloc (.cells ROW 30) := ⟨_, rfl⟩
  have hrz : ∀ ty, (Builtin.append_ #[35, 3] ty #[.slice (some ⟨g, 0, none⟩) i cap, .int .i64 ((l.length : Int) + 1 - (i : Int))]).run Try.prog W = .ok (.slice (some ⟨W.heap.size, 0, none⟩) (l.length + 1) G) W1 := fun ty => by
    have h := Lib.run_append_grow_zeros W 35 3 ty 30 i0 _ .i64 .i64 Try.underlying35 Try.underlying3 hi0 hz0 (some ⟨g, 0, none⟩) i cap (holdsC (l.take i)) hold (l.length + 1 - i) (by omega) (by omega) (by omega) (by omega) (by rw [hzb]; omega) (by rw [hzb, hik]; exact growslice_fits hroom (by omega))
    rw [hik, ← hG, ← hROW, ← hW1] at h
    rw [hkk]
    exact h
  have hGn : l.length + 1 ≤ G := by rw [hG]; exact grownCap_ge W _ _ _
  have hGm : G ≤ maxLen := by rw [hG]; exact grownCap_le_maxLen W _ _ _ (by unfold maxLen; omega)
  have hRl : ROW.toList.length = G * 3 := by
    rw [hROW]
    simp [Builtin.zeroCells, Value.cells, hPl]
    omega
  have hN : W1.heap[W.heap.size]? = some (.cells ROW 30 (0, 0)) := by rw [hW1]; exact heap_alloc_new W.drew _
  have hO : ∀ k, k < W.heap.size → W1.heap[k]? = W.heap[k]? := fun k hk => by rw [hW1]; exact Below.heap_alloc W.drew _ k hk
  have hB1 : Below base W W1 := by rw [hW1]; exact (Below.refl _ W).drew.alloc hbase _
  obtain ⟨N, hNe⟩ : ∃ N, N = W.heap.size := ⟨_, rfl⟩
  rw [← hNe] at hN hrz hgw
  have hNb : base ≤ N := by omega
  have hcellW1 : ∀ j u, (holdsC l)[j]? = some u → W1.cell? ⟨g, j, none⟩ = some u := fun j u hu => by
    rw [World.cell?_of_block (w := W) (a := ⟨g, j, none⟩) (hO g (by omega))]
    exact hcell j u hu
  have hvW1 : Block W1 vb 30 #[.string x.f, .int .i64 x.r, .int .i64 x.c] := (hO vb hv.lt).trans hv
  have hvN : vb ≠ N := by have := hv.lt; omega
  have hgN : g ≠ N := by omega
  obtain ⟨R, hR⟩ : ∃ R, ROW.toList = holdsC (l.take i) ++ R := ⟨_, by rw [hROW, Array.toList_append, Array.toList_append, List.append_assoc]⟩
  have hRR : R.length = (G - i) * 3 := by
    have := congrArg List.length hR
    rw [hRl, List.length_append, hPl] at this
    omega
  clear hROW hold hO hcell hkk
  obtain ⟨Row1, hRow1⟩ : ∃ A : Array Value, A = (ROW.toList.take (i * 3) ++ holdC x ++ ROW.toList.drop (i * 3 + (holdC x).length)).toArray := ⟨_, rfl⟩
  have hcp1 : ∀ ty dc, (Builtin.copy_ #[35, 35] ty #[.slice (some ⟨N, i * 3, none⟩) (l.length + 1 - i) dc, .slice (some ⟨vb, 0, none⟩) 1 1]).run Try.prog W1 = .ok (goInt (Nat.min 1 (l.length + 1 - i))) (W1.setRow N Row1) := fun ty dc => by
    rw [hRow1]
    refine run_copy_k W1 _ _ ty 30 N (i * 3) (l.length + 1 - i) dc ⟨vb, 0, none⟩ 1 1 3 ROW 30 (holdC x) Try.underlying35 hsz hN ?_ ?_ ?_ (fun u hu => holdsC_one [x] u (by simpa [holdsC] using hu))
    · simp only [holdC, Nat.min_def, List.length_cons, List.length_nil]; split <;> omega
    · intro j u hj
      rw [Go.WideShapes.add_plain, Nat.zero_add, hvW1.cell j]
      simpa [holdC] using hj
    · have : ROW.size = G * 3 := by simpa using hRl
      rw [this]; simp [holdC]; omega
  have hN1 : (W1.setRow N Row1).heap[N]? = some (.cells Row1 30 (0, 0)) := setRow_heap W1 N ROW Row1 _ _ hN
  have hR1 : Row1.toList.length = G * 3 := by
    rw [hRow1]
    simp [hRl, holdC]
    omega
  obtain ⟨W2, hW2⟩ : ∃ W2, W2 = W1.setRow N Row1 := ⟨_, rfl⟩
  obtain ⟨Row2, hRow2⟩ : ∃ A : Array Value, A = (Row1.toList.take ((i + 1) * 3) ++ holdsC (l.drop i) ++ Row1.toList.drop ((i + 1) * 3 + (holdsC (l.drop i)).length)).toArray := ⟨_, rfl⟩
  have hcellW2 : ∀ j u, (holdsC l)[j]? = some u → W2.cell? ⟨g, j, none⟩ = some u := fun j u hu => by
    rw [hW2, cell_setRow_other _ _ _ _ hgN]
    exact hcellW1 j u hu
  have hB2 : Below base W W2 := by rw [hW2]; exact below_setRow hB1 hNb _
  rw [← hW2] at hcp1 hN1
  have hcp2 : ∀ ty dc sc, (Builtin.copy_ #[35, 35] ty #[.slice (some ⟨N, (i + 1) * 3, none⟩) (l.length - i) dc, .slice (some ⟨g, i * 3, none⟩) (l.length - i) sc]).run Try.prog W2.drew = .ok (goInt (Nat.min (l.length - i) (l.length - i))) (W2.drew.setRow N Row2) := fun ty dc sc => by
    rw [hRow2]
    refine run_copy_k W2.drew _ _ ty 30 N ((i + 1) * 3) (l.length - i) dc ⟨g, i * 3, none⟩ (l.length - i) sc 3 Row1 30 (holdsC (l.drop i)) Try.underlying35 hsz hN1 ?_ ?_ ?_ (holdsC_one _)
    · rw [hDl]; simp only [Nat.min_def]; split <;> omega
    · intro j u hj
      rw [Go.WideShapes.add_plain]
      exact hcellW2 _ u (by rw [hPD, List.getElem?_append_right (by omega), hPl, Nat.add_sub_cancel_left]; exact hj)
    · have : Row1.size = G * 3 := by simpa using hR1
      rw [this, hDl]; omega
  have hg2 : (W2.drew.setRow N Row2).heap[N]? = some (.cells Row2 30 (0, 0)) := setRow_heap _ N Row1 Row2 _ _ hN1
  have hrow : Row2.toList = holdsC (l.take i) ++ holdC x ++ holdsC (l.drop i) ++ R.drop (3 + (holdsC (l.drop i)).length) := by
    have := grow_rows (holdsC (l.take i)) (holdsC (l.drop i)) R (holdC x) rfl ROW.toList hR (i * 3) ((i + 1) * 3) hPl.symm (by omega)
    rw [hRow2, hRow1]
    simpa using this
  have hout : (W2.drew.setRow N Row2).ownsRow base 30 3 (.slice (some ⟨N, 0, none⟩) (l.length + 1) G) (l.length + 1) (holdsC (l.take i ++ ([x] ++ l.drop i))) := by
    have hE : holdsC (l.take i ++ ([x] ++ l.drop i)) = holdsC (l.take i) ++ holdC x ++ holdsC (l.drop i) := by rw [holdsC_append, holdsC_append]; simp [holdsC]
    have hEl : (holdsC (l.take i) ++ holdC x ++ holdsC (l.drop i)).length = (l.length + 1) * 3 := by
      rw [List.length_append, List.length_append, hPl, hDl]; simp [holdC]; omega
    refine ⟨by rw [hE, hEl], .inr ⟨N, G, Row2, rfl, hNb, hg2, hGn, hGm, ?_, ?_⟩⟩
    · have : Row2.toList.length = G * 3 := by rw [hrow, List.length_append, hEl, List.length_drop, hRR, hDl]; omega
      simpa using this
    · rw [hrow, hE, ← hEl, List.take_left']
      rfl
  have HO := Lib.hid hout
  have HBB := Lib.hid (below_setRow (w := W2.drew) hB2.drew hNb Row2)
  have hz2 : ¬ ((i : Int) = (l.length : Int)) := by omega
  have hz3 : (cap : Int) < (l.length : Int) + 1 := by omega
  have hw1 : IntKind.i64.wrap ((i : Int) + 1) = (i : Int) + 1 := IntWalk.i64_in _ (by omega)
  have hb1 : (0 : Int) ≤ (i : Int) + 1 := by omega
  have htn : ((i : Int) + 1).toNat = i + 1 := by omega
  unfold maxLen at hGm
  have hGi : ¬ (G = i) := by omega
  have hGim : ¬ (G = i + 1) := by omega
  have hci : ¬ (cap = i) := by omega
  have hb3 : (i : Int) ≤ (l.length : Int) := by omega
  have hin : i ≤ l.length := by omega
  have mixed : Try.prog.follows .mixedOrders = true := by kernel_rfl
  clear hW2 hNe hout hrow hg2 hB2 hcellW2 hRow2 hR1 hRow1 hcellW1 hRR hR hRl hB1 hN hW1 hPD hDl hPl hik hG hcs htk hvW1
  go_enter Try.func28, Try.ntmps28
  go_wp2_with (first
    | (at_builtin; refine Lib.wpList_append_run _ rfl _ _ _ _ rfl _ _ rfl rfl _ _ (hrz _) ?_)
    | (at_builtin; refine wpList_copy_runI _ rfl _ _ 35 35 rfl _ _ rfl rfl (hcp1 _ _) ?_))

  go_region_law_o (refine step_copy_runI rfl _ _ 35 35 rfl (.slice (some ⟨N, (i + 1) * 3, none⟩) (l.length - i) (G - (i + 1))) (.slice (some ⟨g, i * 3, none⟩) (l.length - i) (cap - i)) (by simp [Act.eval, Act.put]) (by simp [Act.eval, Act.put]) (hcp2 _ _ _) ?_)
  go_wp2
  go_ret
  exact ⟨_, rfl, HO.out, HBB.out⟩
end Go.Proofs.Ytagbcfkdieinpaa
