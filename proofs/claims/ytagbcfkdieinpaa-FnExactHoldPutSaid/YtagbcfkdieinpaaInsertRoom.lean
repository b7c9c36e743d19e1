/-
  slices.Insert of one hold into a row of the call's own: in place.
-/
import Derived.Test.YtagbcfkdieinpaaInsertEnd
import Derived.Shelf.Spec.SlicesInsert
namespace Go.Proofs.Ytagbcfkdieinpaa
open Go.ChangeShapes Go.WideShapes Go.ChangeAt Go.RowKit Go.ChangeMaps
set_option linter.unusedSimpArgs false
set_option linter.unusedVariables false

/-- The rest moved on by three cells, and three cells laid into the gap. -/
theorem ins_rows (P D S X : List Value) (hX : X.length = 3) (c : List Value) (hc : c = P ++ (D ++ S)) (o o2 o3 : Nat) (h1 : o = P.length) (h2 : o2 = P.length + 3) (h3 : o3 = P.length + 3 + D.length) (hS : 3 ≤ S.length) :
    let r1 := c.take o2 ++ D ++ c.drop o3
    r1.take o ++ X ++ r1.drop (o + X.length) = P ++ X ++ D ++ S.drop 3 := by
  subst hc h1 h2 h3
  have e1 : (P ++ (D ++ S)).take (P.length + 3) = P ++ (D ++ S).take 3 := by rw [List.take_append, List.take_of_length_le (by omega), Nat.add_sub_cancel_left]
  have e2 : (P ++ (D ++ S)).drop (P.length + 3 + D.length) = S.drop 3 := by
    rw [List.drop_append, List.drop_eq_nil_of_le (by omega), List.nil_append, List.drop_append, List.drop_eq_nil_of_le (by omega), List.nil_append]
    congr 1
    omega
  have e3 : ((D ++ S).take 3).length = 3 := by simp; omega
  dsimp only
  rw [e1, e2]
  generalize (D ++ S).take 3 = T at *
  have e4 : P ++ T ++ D ++ S.drop 3 = P ++ (T ++ (D ++ S.drop 3)) := by simp
  have e5 : (P ++ (T ++ (D ++ S.drop 3))).drop (P.length + 3) = D ++ S.drop 3 := by
    rw [List.drop_append, List.drop_eq_nil_of_le (by omega), List.nil_append, Nat.add_sub_cancel_left, List.drop_left' e3]
  rw [hX, e4, e5, List.take_left' rfl]
  simp

set_option maxHeartbeats 4000000 in
set_option maxRecDepth 100000 in
theorem insert_room (l : List HD) (x : HD) (g cap base vb i : Nat) (cur : Array Value) (W : World) (hi : i < l.length) (hbg : base ≤ g) (hg : W.heap[g]? = some (.cells cur 30 (0, 0))) (hcs : cur.size = cap * 3) (htk : cur.toList.take (l.length * 3) = holdsC l) (hroom : l.length + 1 ≤ cap) (hcm : cap ≤ maxLen)
    (hv : Block W vb 30 #[.string x.f, .int .i64 x.r, .int .i64 x.c]) (hne : vb ≠ g) (hbase : base ≤ W.heap.size) :
    Calls Try.prog 28 #[.slice (some ⟨g, 0, none⟩) l.length cap, .int .i64 (i : Int), .slice (some ⟨vb, 0, none⟩) 1 1] W fun e w' => ∃ v', e = .returned v' ∧ w'.ownsRow base 30 3 v' (l.length + 1) (holdsC (l.take i ++ ([x] ++ l.drop i))) ∧ Below base W w' := by
  have hov : ∀ lb cb, (callFunc 45 #[.slice (some ⟨vb, 0, none⟩) 1 1, .slice (some ⟨g, (i + 1) * 3, none⟩) lb cb]).run Try.prog W = .ok (.value (.bool false)) W := fun lb cb => by
    rw [run_callFunc_extern Try.func45 (by kernel_rfl) (by kernel_rfl) (by kernel_rfl) (e := Extern.SlicesOverlaps.overlaps #[35, 35] #[4]) (by kernel_rfl),
      Lib.run_overlaps_apart W 35 4 30 Try.underlying35 3 (fun w => by simp [sizeOf, typeInfo]; rfl) ⟨vb, 0, none⟩ ⟨g, (i + 1) * 3, none⟩ 1 1 lb cb hne 30 30 3 (cap * 3) (by simp [World.shape?, show W.heap[vb]? = _ from hv]) (by simp [World.shape?, hg, hcs]) (by omega) (hv.free 0) (hv.free 3)]
    rfl
  unfold maxLen at hcm
  have hz2 : ¬ ((i : Int) = (l.length : Int)) := by omega
  have hw1 : IntKind.i64.wrap ((i : Int) + 1) = (i : Int) + 1 := IntWalk.i64_in _ (by omega)
  have hb1 : (0 : Int) ≤ (i : Int) + 1 := by omega
  have htn : ((i : Int) + 1).toNat = i + 1 := by omega
  have hb2 : ¬ (cap = i + 1) := by omega
  have hb4 : ¬ (cap = i) := by omega
  have hb3 : (i : Int) ≤ (l.length : Int) + 1 := by omega
  have hin : i ≤ l.length := by omega
  have hPl : (holdsC (l.take i)).length = i * 3 := by rw [holdsC_length, take_len_le (by omega)]
  have hDl : (holdsC (l.drop i)).length = (l.length - i) * 3 := by rw [holdsC_length, List.length_drop]
  have hPD : holdsC l = holdsC (l.take i) ++ holdsC (l.drop i) := by rw [← holdsC_append, List.take_append_drop]
  have hcl : cur.toList.length = cap * 3 := by simpa using hcs
  have hSl : 3 ≤ (cur.toList.drop (l.length * 3)).length := by rw [List.length_drop]; omega
  have hcur : cur.toList = holdsC (l.take i) ++ (holdsC (l.drop i) ++ cur.toList.drop (l.length * 3)) := by
    rw [← List.append_assoc, ← hPD, ← htk, List.take_append_drop]
  have hsz : (Try.prog.info? 30).map (·.size) = some 3 := by kernel_rfl
  obtain ⟨Row1, hRow1⟩ : ∃ R, R = (cur.toList.take ((i + 1) * 3) ++ holdsC (l.drop i) ++ cur.toList.drop ((i + 1) * 3 + (holdsC (l.drop i)).length)).toArray := ⟨_, rfl⟩
  have hcp1 : ∀ ty dc sc, (Builtin.copy_ #[35, 35] ty #[.slice (some ⟨g, (i + 1) * 3, none⟩) (l.length - i) dc, .slice (some ⟨g, i * 3, none⟩) (l.length + 1 - i) sc]).run Try.prog W.drew = .ok (goInt (Nat.min (l.length + 1 - i) (l.length - i))) (W.drew.setRow g Row1) := fun ty dc sc => by
    rw [hRow1]
    refine run_copy_k W.drew _ _ ty 30 g ((i + 1) * 3) (l.length - i) dc ⟨g, i * 3, none⟩ (l.length + 1 - i) sc 3 cur 30 (holdsC (l.drop i)) Try.underlying35 hsz hg ?_ ?_ ?_ (holdsC_one _)
    · rw [hDl]; simp only [Nat.min_def]; split <;> omega
    · intro j u hj
      have hjl := (List.getElem?_eq_some_iff.1 hj).1
      rw [Go.WideShapes.add_plain, cell_of_row W.drew g (i * 3 + j) cur 30 (0, 0) hg, ← Array.getElem?_toList, hcur, List.getElem?_append_right (by omega), hPl, Nat.add_sub_cancel_left, List.getElem?_append_left hjl]
      exact hj
    · rw [hDl, hcs]; omega
  have hg1 : (W.drew.setRow g Row1).heap[g]? = some (.cells Row1 30 (0, 0)) := setRow_heap W.drew g cur Row1 _ _ hg
  have hR1 : Row1.toList.length = cap * 3 := by
    rw [hRow1]
    simp [hcl, hDl]
    omega
  obtain ⟨Row2, hRow2⟩ : ∃ R, R = (Row1.toList.take (i * 3) ++ holdC x ++ Row1.toList.drop (i * 3 + (holdC x).length)).toArray := ⟨_, rfl⟩
  have hcp2 : ∀ ty dc, (Builtin.copy_ #[35, 35] ty #[.slice (some ⟨g, i * 3, none⟩) (l.length + 1 - i) dc, .slice (some ⟨vb, 0, none⟩) 1 1]).run Try.prog (W.drew.setRow g Row1) = .ok (goInt (Nat.min 1 (l.length + 1 - i))) ((W.drew.setRow g Row1).setRow g Row2) := fun ty dc => by
    rw [hRow2]
    refine run_copy_k (W.drew.setRow g Row1) _ _ ty 30 g (i * 3) (l.length + 1 - i) dc ⟨vb, 0, none⟩ 1 1 3 Row1 30 (holdC x) Try.underlying35 hsz hg1 ?_ ?_ ?_ (fun u hu => holdsC_one [x] u (by simpa [holdsC] using hu))
    · simp only [holdC, Nat.min_def, List.length_cons, List.length_nil]; split <;> omega
    · intro j u hj
      rw [Go.WideShapes.add_plain, cell_setRow_other _ _ _ _ hne, Nat.zero_add, show W.drew.cell? ⟨vb, j, none⟩ = _ from hv.cell j]
      simpa [holdC] using hj
    · have : Row1.size = cap * 3 := by simpa using hR1
      rw [this]; simp [holdC]; omega
  have hg2 : ((W.drew.setRow g Row1).setRow g Row2).heap[g]? = some (.cells Row2 30 (0, 0)) := setRow_heap _ g Row1 Row2 _ _ hg1
  have hrow : Row2.toList = holdsC (l.take i) ++ holdC x ++ holdsC (l.drop i) ++ (cur.toList.drop (l.length * 3)).drop 3 := by
    have := ins_rows (holdsC (l.take i)) (holdsC (l.drop i)) (cur.toList.drop (l.length * 3)) (holdC x) rfl cur.toList hcur (i * 3) ((i + 1) * 3) ((i + 1) * 3 + (holdsC (l.drop i)).length) hPl.symm (by omega) (by omega) hSl
    rw [hRow2, hRow1]
    simpa using this
  have hout : ((W.drew.setRow g Row1).setRow g Row2).ownsRow base 30 3 (.slice (some ⟨g, 0, none⟩) (l.length + 1) cap) (l.length + 1) (holdsC (l.take i ++ ([x] ++ l.drop i))) := by
    have hE : holdsC (l.take i ++ ([x] ++ l.drop i)) = holdsC (l.take i) ++ holdC x ++ holdsC (l.drop i) := by rw [holdsC_append, holdsC_append]; simp [holdsC]
    have hEl : (holdsC (l.take i) ++ holdC x ++ holdsC (l.drop i)).length = (l.length + 1) * 3 := by
      rw [List.length_append, List.length_append, hPl, hDl]; simp [holdC]; omega
    refine ⟨by rw [hE, hEl], .inr ⟨g, cap, Row2, rfl, hbg, hg2, hroom, by unfold maxLen; exact hcm, ?_, ?_⟩⟩
    · have : Row2.toList.length = cap * 3 := by rw [hrow, List.length_append, hEl, List.length_drop, List.length_drop, hcl]; omega
      simpa using this
    · rw [hrow, hE, ← hEl, List.take_left']
      rfl
  have hBB : Below base W ((W.drew.setRow g Row1).setRow g Row2) := below_setRow (below_setRow (Below.refl _ W).drew hbg _) hbg _
  have HO := Lib.hid hout
  have HBB := Lib.hid hBB
  clear hout hBB hrow hg2 hR1 hg1 hRow1 hRow2 hcur hSl hcl hPD hDl hPl hcs htk
  have mixed : Try.prog.follows .mixedOrders = true := by kernel_rfl
  go_enter Try.func28, Try.ntmps28
  go_wp2_with (simp only [hov])
  go_region_law_o (refine step_copy_runI rfl _ _ 35 35 rfl _ _ (by simp [Act.eval, Act.put]) (by simp [Act.eval, Act.put]) (hcp1 _ _ _) ?_)
  go_wp2_with (at_builtin; refine wpList_copy_runI _ rfl _ _ 35 35 rfl _ _ rfl rfl (hcp2 _ _) ?_)
  go_ret
  exact ⟨_, rfl, HO.out, HBB.out⟩
end Go.Proofs.Ytagbcfkdieinpaa
