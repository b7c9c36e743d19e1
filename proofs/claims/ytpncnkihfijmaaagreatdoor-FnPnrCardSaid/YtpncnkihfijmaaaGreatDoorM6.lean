/-
  slices.Insert of one hold into a row of the call's own: at its end. slices.Insert of one hold into a row of the call's own: in place. slices.Insert of one hold into a row of the call's own: a new row. impl.holdPlace: the walk. impl.holdCopy: the walk. impl.holdsCopy: the walk. impl.HoldPut: the walk.
-/
import Derived.Test.YtpncnkihfijmaaaGreatDoorM11
import Derived.Test.YtpncnkihfijmaaaGreatDoorM3
import Derived.Test.YtpncnkihfijmaaaGreatDoorM1
import Derived.Shelf.Spec.SlicesInsert
import Derived.Lib.AppendZerosOnto
import Derived.Test.YtpncnkihfijmaaaGreatDoorEachHoldZ
import Derived.Scope
import Derived.Test.YtpncnkihfijmaaaGreatDoorJoinedZ
import Derived.Deep.RegionWith
import Derived.Test.YtpncnkihfijmaaaGreatDoorCameZ
import Derived.Test.YtpncnkihfijmaaaGreatDoorHoldPutSZ
namespace Go.Proofs.YtpncnkihfijmaaaGreatDoor
open Go.ChangeShapes Go.WideShapes Go.ChangeAt Go.RowKit Go.ChangeMaps
set_option maxRecDepth 10000
set_option linter.unusedSimpArgs false
set_option linter.unusedVariables false

/-- A block of one hold reads as a list of one. -/
theorem lies_one {W : World} {vb : Nat} {x : HD} (h : Block W vb 49 #[.string x.f, .int .i64 x.r, .int .i64 x.c]) : Lies W W.heap.size 3 (some ⟨vb, 0, none⟩) 1 (holdsC [x]) :=
  ⟨rfl, fun _ => ⟨vb, 0, rfl, h.lt, fun j u hu => by rw [Nat.zero_add, h.cell j]; simpa [holdsC, holdC] using hu⟩⟩

set_option maxHeartbeats 2000000 in
theorem insert_end (l : List HD) (x : HD) (v : Value) (base vb : Nat) (W : World) (hown : W.ownsRow base 49 3 v l.length (holdsC l)) (hv : Block W vb 49 #[.string x.f, .int .i64 x.r, .int .i64 x.c]) (hbase : base ≤ W.heap.size) (hm : l.length ≤ 1099511626) :
    Calls Tryz.prog 77 #[v, .int .i64 (l.length : Int), .slice (some ⟨vb, 0, none⟩) 1 1] W fun e w' => ∃ v', e = .returned v' ∧ w'.ownsRow base 49 3 v' (l.length + 1) (holdsC (l ++ [x])) ∧ Below base W w' := by
  obtain ⟨A, cap, rfl, hnc, hcm⟩ := own_form hown
  have HO := Lib.hid hown
  have HL := Lib.hid (lies_one hv)
  have HB : Hid (∀ k, (Value.slice A l.length cap).ownBlock = some k → base ≤ k) := ownBlock_from hown
  unfold maxLen at hcm
  clear hown hv
  go_enter Tryz.func77, Tryz.ntmps77
  go_wp2_with (at_builtin; have hq := HO.out; refine wpList_append_lies Tryz.underlying38 info_hold rfl (by decide) (by decide) base _ _ _ rfl hq W.heap.size _ _ _ _ rfl HL.out (holdsC_one _) (by omega) hbase ?_; intro v' w' hown' hg')
  all_goals
    go_ret
    exact ⟨v', by simp, by rw [holdsC_append]; exact hown', (Below.refl base W).grown hg' hbase HB.out⟩
end Go.Proofs.YtpncnkihfijmaaaGreatDoor
namespace Go.Proofs.YtpncnkihfijmaaaGreatDoor
open Go.ChangeShapes Go.WideShapes Go.ChangeAt Go.RowKit Go.ChangeMaps
set_option maxRecDepth 10000
set_option linter.unusedSimpArgs false
set_option linter.unusedVariables false

/-- The rest moved on by three cells, and three cells laid into the gap. -/
theorem ins_rows (P D S X : List Value) (hX : X.length = 3) (c : List Value) (hc : c = P ++ (D ++ S)) (o o2 o3 : Nat) (h1 : o = P.length) (h2 : o2 = P.length + 3) (h3 : o3 = P.length + 3 + D.length) (hS : 3 ≤ S.length) :
    let r1 := c.take o2 ++ D ++ c.drop o3
    r1.take o ++ X ++ r1.drop (o + X.length) = P ++ X ++ D ++ S.drop 3 := by
  subst hc h1 h2 h3
  have e1 : (P ++ (D ++ S)).take (P.length + 3) = P ++ (D ++ S).take 3 := by rw [List.take_append, List.take_of_length_le (by omega), Nat.add_sub_cancel_left]
  have e2 : (P ++ (D ++ S)).drop (P.length + 3 + D.length) = S.drop 3 := by
    rw [List.drop_append, List.drop_eq_nil_of_le (by omega), List.nil_append, List.drop_append, List.drop_eq_nil_of_le (by omega), List.nil_append]
    congr 1
    omega
  have e3 : ((D ++ S).take 3).length = 3 := by simp; omega
  dsimp only
  rw [e1, e2]
  generalize (D ++ S).take 3 = T at *
  have e4 : P ++ T ++ D ++ S.drop 3 = P ++ (T ++ (D ++ S.drop 3)) := by simp
  have e5 : (P ++ (T ++ (D ++ S.drop 3))).drop (P.length + 3) = D ++ S.drop 3 := by
    rw [List.drop_append, List.drop_eq_nil_of_le (by omega), List.nil_append, Nat.add_sub_cancel_left, List.drop_left' e3]
  rw [hX, e4, e5, List.take_left' rfl]
  simp

set_option maxHeartbeats 4000000 in
set_option maxRecDepth 100000 in
theorem insert_room (l : List HD) (x : HD) (g cap base vb i : Nat) (cur : Array Value) (W : World) (hi : i < l.length) (hbg : base ≤ g) (hg : W.heap[g]? = some (.cells cur 49 (0, 0))) (hcs : cur.size = cap * 3) (htk : cur.toList.take (l.length * 3) = holdsC l) (hroom : l.length + 1 ≤ cap) (hcm : cap ≤ maxLen)
    (hv : Block W vb 49 #[.string x.f, .int .i64 x.r, .int .i64 x.c]) (hne : vb ≠ g) (hbase : base ≤ W.heap.size) :
    Calls Tryz.prog 77 #[.slice (some ⟨g, 0, none⟩) l.length cap, .int .i64 (i : Int), .slice (some ⟨vb, 0, none⟩) 1 1] W fun e w' => ∃ v', e = .returned v' ∧ w'.ownsRow base 49 3 v' (l.length + 1) (holdsC (l.take i ++ ([x] ++ l.drop i))) ∧ Below base W w' := by
  have hov : ∀ lb cb, (callFunc 110 #[.slice (some ⟨vb, 0, none⟩) 1 1, .slice (some ⟨g, (i + 1) * 3, none⟩) lb cb]).run Tryz.prog W = .ok (.value (.bool false)) W := fun lb cb => by
    rw [run_callFunc_extern Tryz.func110 (by kernel_rfl) (by kernel_rfl) (by kernel_rfl) (e := Extern.SlicesOverlaps.overlaps #[38, 38] #[4]) (by kernel_rfl),
      Lib.run_overlaps_apart W 38 4 49 Tryz.underlying38 3 (fun w => by simp [sizeOf, typeInfo]; rfl) ⟨vb, 0, none⟩ ⟨g, (i + 1) * 3, none⟩ 1 1 lb cb hne 49 49 3 (cap * 3) (by simp [World.shape?, show W.heap[vb]? = _ from hv]) (by simp [World.shape?, hg, hcs]) (by omega) (hv.free 0) (hv.free 3)]
    rfl
  unfold maxLen at hcm
  have hz2 : ¬ ((i : Int) = (l.length : Int)) := by omega
  have hw1 : IntKind.i64.wrap ((i : Int) + 1) = (i : Int) + 1 := IntWalk.i64_in _ (by omega)
  have hb1 : (0 : Int) ≤ (i : Int) + 1 := by omega
  have htn : ((i : Int) + 1).toNat = i + 1 := by omega
  have hb2 : ¬ (cap = i + 1) := by omega
  have hb4 : ¬ (cap = i) := by omega
  have hb3 : (i : Int) ≤ (l.length : Int) + 1 := by omega
  have hin : i ≤ l.length := by omega
  have hPl : (holdsC (l.take i)).length = i * 3 := by rw [holdsC_length, take_len_le (by omega)]
  have hDl : (holdsC (l.drop i)).length = (l.length - i) * 3 := by rw [holdsC_length, List.length_drop]
  have hPD : holdsC l = holdsC (l.take i) ++ holdsC (l.drop i) := by rw [← holdsC_append, List.take_append_drop]
  have hcl : cur.toList.length = cap * 3 := by simpa using hcs
  have hSl : 3 ≤ (cur.toList.drop (l.length * 3)).length := by rw [List.length_drop]; omega
  have hcur : cur.toList = holdsC (l.take i) ++ (holdsC (l.drop i) ++ cur.toList.drop (l.length * 3)) := by
    rw [← List.append_assoc, ← hPD, ← htk, List.take_append_drop]
  have hsz : (Tryz.prog.info? 49).map (·.size) = some 3 := by kernel_rfl
  obtain ⟨Row1, hRow1⟩ : ∃ R, R = (cur.toList.take ((i + 1) * 3) ++ holdsC (l.drop i) ++ cur.toList.drop ((i + 1) * 3 + (holdsC (l.drop i)).length)).toArray := ⟨_, rfl⟩
  have hcp1 : ∀ ty dc sc, (Builtin.copy_ #[38, 38] ty #[.slice (some ⟨g, (i + 1) * 3, none⟩) (l.length - i) dc, .slice (some ⟨g, i * 3, none⟩) (l.length + 1 - i) sc]).run Tryz.prog W.drew = .ok (goInt (Nat.min (l.length + 1 - i) (l.length - i))) (W.drew.setRow g Row1) := fun ty dc sc => by
    rw [hRow1]
    refine run_copy_k W.drew _ _ ty 49 g ((i + 1) * 3) (l.length - i) dc ⟨g, i * 3, none⟩ (l.length + 1 - i) sc 3 cur 49 (holdsC (l.drop i)) Tryz.underlying38 hsz hg ?_ ?_ ?_ (holdsC_one _)
    · rw [hDl]; simp only [Nat.min_def]; split <;> omega
    · intro j u hj
      have hjl := (List.getElem?_eq_some_iff.1 hj).1
      rw [Go.WideShapes.add_plain, cell_of_row W.drew g (i * 3 + j) cur 49 (0, 0) hg, ← Array.getElem?_toList, hcur, List.getElem?_append_right (by omega), hPl, Nat.add_sub_cancel_left, List.getElem?_append_left hjl]
      exact hj
    · rw [hDl, hcs]; omega
  have hg1 : (W.drew.setRow g Row1).heap[g]? = some (.cells Row1 49 (0, 0)) := setRow_heap W.drew g cur Row1 _ _ hg
  have hR1 : Row1.toList.length = cap * 3 := by
    rw [hRow1]
    simp [hcl, hDl]
    omega
  obtain ⟨Row2, hRow2⟩ : ∃ R, R = (Row1.toList.take (i * 3) ++ holdC x ++ Row1.toList.drop (i * 3 + (holdC x).length)).toArray := ⟨_, rfl⟩
  have hcp2 : ∀ ty dc, (Builtin.copy_ #[38, 38] ty #[.slice (some ⟨g, i * 3, none⟩) (l.length + 1 - i) dc, .slice (some ⟨vb, 0, none⟩) 1 1]).run Tryz.prog (W.drew.setRow g Row1) = .ok (goInt (Nat.min 1 (l.length + 1 - i))) ((W.drew.setRow g Row1).setRow g Row2) := fun ty dc => by
    rw [hRow2]
    refine run_copy_k (W.drew.setRow g Row1) _ _ ty 49 g (i * 3) (l.length + 1 - i) dc ⟨vb, 0, none⟩ 1 1 3 Row1 49 (holdC x) Tryz.underlying38 hsz hg1 ?_ ?_ ?_ (fun u hu => holdsC_one [x] u (by simpa [holdsC] using hu))
    · simp only [holdC, Nat.min_def, List.length_cons, List.length_nil]; split <;> omega
    · intro j u hj
      rw [Go.WideShapes.add_plain, cell_setRow_other _ _ _ _ hne, Nat.zero_add, show W.drew.cell? ⟨vb, j, none⟩ = _ from hv.cell j]
      simpa [holdC] using hj
    · have : Row1.size = cap * 3 := by simpa using hR1
      rw [this]; simp [holdC]; omega
  have hg2 : ((W.drew.setRow g Row1).setRow g Row2).heap[g]? = some (.cells Row2 49 (0, 0)) := setRow_heap _ g Row1 Row2 _ _ hg1
  have hrow : Row2.toList = holdsC (l.take i) ++ holdC x ++ holdsC (l.drop i) ++ (cur.toList.drop (l.length * 3)).drop 3 := by
    have := ins_rows (holdsC (l.take i)) (holdsC (l.drop i)) (cur.toList.drop (l.length * 3)) (holdC x) rfl cur.toList hcur (i * 3) ((i + 1) * 3) ((i + 1) * 3 + (holdsC (l.drop i)).length) hPl.symm (by omega) (by omega) hSl
    rw [hRow2, hRow1]
    simpa using this
  have hout : ((W.drew.setRow g Row1).setRow g Row2).ownsRow base 49 3 (.slice (some ⟨g, 0, none⟩) (l.length + 1) cap) (l.length + 1) (holdsC (l.take i ++ ([x] ++ l.drop i))) := by
    have hE : holdsC (l.take i ++ ([x] ++ l.drop i)) = holdsC (l.take i) ++ holdC x ++ holdsC (l.drop i) := by rw [holdsC_append, holdsC_append]; simp [holdsC]
    have hEl : (holdsC (l.take i) ++ holdC x ++ holdsC (l.drop i)).length = (l.length + 1) * 3 := by
      rw [List.length_append, List.length_append, hPl, hDl]; simp [holdC]; omega
    refine ⟨by rw [hE, hEl], .inr ⟨g, cap, Row2, rfl, hbg, hg2, hroom, by unfold maxLen; exact hcm, ?_, ?_⟩⟩
    · have : Row2.toList.length = cap * 3 := by rw [hrow, List.length_append, hEl, List.length_drop, List.length_drop, hcl]; omega
      simpa using this
    · rw [hrow, hE, ← hEl, List.take_left']
      rfl
  have hBB : Below base W ((W.drew.setRow g Row1).setRow g Row2) := below_setRow (below_setRow (Below.refl _ W).drew hbg _) hbg _
  have HO := Lib.hid hout
  have HBB := Lib.hid hBB
  clear hout hBB hrow hg2 hR1 hg1 hRow1 hRow2 hcur hSl hcl hPD hDl hPl hcs htk
  have mixed : Tryz.prog.follows .mixedOrders = true := by kernel_rfl
  go_enter Tryz.func77, Tryz.ntmps77
  go_wp2_with (simp only [hov])
  go_region_law_o (refine step_copy_runI rfl _ _ 38 38 rfl _ _ (by simp [Act.eval, Act.put]) (by simp [Act.eval, Act.put]) (hcp1 _ _ _) ?_)
  go_wp2_with (at_builtin; refine wpList_copy_runI _ rfl _ _ 38 38 rfl _ _ rfl rfl (hcp2 _ _) ?_)
  go_ret
  exact ⟨_, rfl, HO.out, HBB.out⟩
end Go.Proofs.YtpncnkihfijmaaaGreatDoor
namespace Go.Proofs.YtpncnkihfijmaaaGreatDoor
open Go.ChangeShapes Go.WideShapes Go.ChangeAt Go.RowKit Go.ChangeMaps
set_option maxRecDepth 10000
set_option linter.unusedSimpArgs false
set_option linter.unusedVariables false

theorem grow_rows (P D R X : List Value) (hX : X.length = 3) (c : List Value) (hc : c = P ++ R) (o o2 : Nat) (h1 : o = P.length) (h2 : o2 = P.length + 3) :
    let r1 := c.take o ++ X ++ c.drop (o + X.length)
    r1.take o2 ++ D ++ r1.drop (o2 + D.length) = P ++ X ++ D ++ R.drop (3 + D.length) := by
  subst hc h1 h2
  dsimp only
  have e1 : (P ++ R).drop (P.length + X.length) = R.drop 3 := by rw [List.drop_append, List.drop_eq_nil_of_le (by omega), List.nil_append, Nat.add_sub_cancel_left, hX]
  have e2 : (P ++ X).length = P.length + 3 := by simp [hX]
  rw [List.take_left' rfl, e1, List.take_left' e2]
  have e3 : (P ++ X ++ R.drop 3).drop (P.length + 3 + D.length) = R.drop (3 + D.length) := by
    rw [List.drop_append, List.drop_eq_nil_of_le (by omega), List.nil_append, e2, Nat.add_sub_cancel_left, List.drop_drop]
  rw [e3]

set_option maxHeartbeats 4000000 in
set_option maxRecDepth 100000 in
theorem insert_grow (l : List HD) (x : HD) (g cap base vb i : Nat) (cur : Array Value) (W : World) (hi : i < l.length) (hg : W.heap[g]? = some (.cells cur 49 (0, 0))) (hcs : cur.size = cap * 3) (htk : cur.toList.take (l.length * 3) = holdsC l) (hnc : l.length ≤ cap) (hroom : cap < l.length + 1) (hm : l.length ≤ 1099511626)
    (hv : Block W vb 49 #[.string x.f, .int .i64 x.r, .int .i64 x.c]) (hbase : base ≤ W.heap.size) :
    Calls Tryz.prog 77 #[.slice (some ⟨g, 0, none⟩) l.length cap, .int .i64 (i : Int), .slice (some ⟨vb, 0, none⟩) 1 1] W fun e w' => ∃ v', e = .returned v' ∧ w'.ownsRow base 49 3 v' (l.length + 1) (holdsC (l.take i ++ ([x] ++ l.drop i))) ∧ Below base W w' := by
  obtain ⟨i0, hi0, hz0, hzs, hzb⟩ := info_parts info_hold
  have hsz : (Tryz.prog.info? 49).map (·.size) = some 3 := by kernel_rfl
  have hgw : g < W.heap.size := (Array.getElem?_eq_some_iff.1 hg).1
  have hPl : (holdsC (l.take i)).length = i * 3 := by rw [holdsC_length, take_len_le (by omega)]
  have hDl : (holdsC (l.drop i)).length = (l.length - i) * 3 := by rw [holdsC_length, List.length_drop]
  have hPD : holdsC l = holdsC (l.take i) ++ holdsC (l.drop i) := by rw [← holdsC_append, List.take_append_drop]
  have hcell : ∀ j u, (holdsC l)[j]? = some u → W.cell? ⟨g, j, none⟩ = some u := fun j u hu => by
    rw [cell_of_row W g j cur 49 (0, 0) hg]
    rw [← htk, List.getElem?_take] at hu
    split at hu
    · simpa using hu
    · cases hu
  have hold : (Builtin.firstCells i0.size i (.slice (some ⟨g, 0, none⟩) i cap)).run Tryz.prog W.drew = .ok (holdsC (l.take i)).toArray W.drew := by
    rw [hzs]
    exact run_firstCells_some W.drew 3 i ⟨g, 0, none⟩ i cap (holdsC (l.take i)) hPl (fun j u hj => by
      rw [Go.WideShapes.add_plain, Nat.zero_add]
      exact hcell j u (by rw [hPD, List.getElem?_append_left (List.getElem?_eq_some_iff.1 hj).1]; exact hj))
  have hik : i + (l.length + 1 - i) = l.length + 1 := by omega
  have hkk : (l.length : Int) + 1 - (i : Int) = ((l.length + 1 - i : Nat) : Int) := by omega
  obtain ⟨G, hG⟩ : ∃ G, G = grownCap W (l.length + 1) cap 49 := ⟨_, rfl⟩
  obtain ⟨ROW, hROW⟩ : ∃ ROW : Array Value, ROW = (holdsC (l.take i)).toArray ++ Builtin.zeroCells (Value.agg #[.string ⟨#[]⟩, .int .i64 0, .int .i64 0]).cells (l.length + 1 - i) ++ Builtin.zeroCells (Value.agg #[.string ⟨#[]⟩, .int .i64 0, .int .i64 0]).cells (G - (l.length + 1)) := ⟨_, rfl⟩
  obtain ⟨W1, hW1⟩ : ∃ W1, W1 = W.drew.alloc (.cells ROW 49) := ⟨_, rfl⟩
  have hrz : ∀ ty, (Builtin.append_ #[38, 3] ty #[.slice (some ⟨g, 0, none⟩) i cap, .int .i64 ((l.length : Int) + 1 - (i : Int))]).run Tryz.prog W = .ok (.slice (some ⟨W.heap.size, 0, none⟩) (l.length + 1) G) W1 := fun ty => by
    have h := Lib.run_append_grow_zeros W 38 3 ty 49 i0 _ .i64 .i64 Tryz.underlying38 Tryz.underlying3 hi0 hz0 (some ⟨g, 0, none⟩) i cap (holdsC (l.take i)) hold (l.length + 1 - i) (by omega) (by omega) (by omega) (by omega) (by rw [hzb]; omega) (by rw [hzb, hik]; exact growslice_fits hroom (by omega))
    rw [hik, ← hG, ← hROW, ← hW1] at h
    rw [hkk]
    exact h
  have hGn : l.length + 1 ≤ G := by rw [hG]; exact grownCap_ge W _ _ _
  have hGm : G ≤ maxLen := by rw [hG]; exact grownCap_le_maxLen W _ _ _ (by unfold maxLen; omega)
  have hRl : ROW.toList.length = G * 3 := by
    rw [hROW]
    simp [Builtin.zeroCells, Value.cells, hPl]
    omega
  have hN : W1.heap[W.heap.size]? = some (.cells ROW 49 (0, 0)) := by rw [hW1]; exact heap_alloc_new W.drew _
  have hO : ∀ k, k < W.heap.size → W1.heap[k]? = W.heap[k]? := fun k hk => by rw [hW1]; exact Below.heap_alloc W.drew _ k hk
  have hB1 : Below base W W1 := by rw [hW1]; exact (Below.refl _ W).drew.alloc hbase _
  obtain ⟨N, hNe⟩ : ∃ N, N = W.heap.size := ⟨_, rfl⟩
  rw [← hNe] at hN hrz hgw
  have hNb : base ≤ N := by omega
  have hcellW1 : ∀ j u, (holdsC l)[j]? = some u → W1.cell? ⟨g, j, none⟩ = some u := fun j u hu => by
    rw [World.cell?_of_block (w := W) (a := ⟨g, j, none⟩) (hO g (by omega))]
    exact hcell j u hu
  have hvW1 : Block W1 vb 49 #[.string x.f, .int .i64 x.r, .int .i64 x.c] := (hO vb hv.lt).trans hv
  have hvN : vb ≠ N := by have := hv.lt; omega
  have hgN : g ≠ N := by omega
  obtain ⟨R, hR⟩ : ∃ R, ROW.toList = holdsC (l.take i) ++ R := ⟨_, by rw [hROW, Array.toList_append, Array.toList_append, List.append_assoc]⟩
  have hRR : R.length = (G - i) * 3 := by
    have := congrArg List.length hR
    rw [hRl, List.length_append, hPl] at this
    omega
  clear hROW hold hO hcell hkk
  obtain ⟨Row1, hRow1⟩ : ∃ A : Array Value, A = (ROW.toList.take (i * 3) ++ holdC x ++ ROW.toList.drop (i * 3 + (holdC x).length)).toArray := ⟨_, rfl⟩
  have hcp1 : ∀ ty dc, (Builtin.copy_ #[38, 38] ty #[.slice (some ⟨N, i * 3, none⟩) (l.length + 1 - i) dc, .slice (some ⟨vb, 0, none⟩) 1 1]).run Tryz.prog W1 = .ok (goInt (Nat.min 1 (l.length + 1 - i))) (W1.setRow N Row1) := fun ty dc => by
    rw [hRow1]
    refine run_copy_k W1 _ _ ty 49 N (i * 3) (l.length + 1 - i) dc ⟨vb, 0, none⟩ 1 1 3 ROW 49 (holdC x) Tryz.underlying38 hsz hN ?_ ?_ ?_ (fun u hu => holdsC_one [x] u (by simpa [holdsC] using hu))
    · simp only [holdC, Nat.min_def, List.length_cons, List.length_nil]; split <;> omega
    · intro j u hj
      rw [Go.WideShapes.add_plain, Nat.zero_add, hvW1.cell j]
      simpa [holdC] using hj
    · have : ROW.size = G * 3 := by simpa using hRl
      rw [this]; simp [holdC]; omega
  have hN1 : (W1.setRow N Row1).heap[N]? = some (.cells Row1 49 (0, 0)) := setRow_heap W1 N ROW Row1 _ _ hN
  have hR1 : Row1.toList.length = G * 3 := by
    rw [hRow1]
    simp [hRl, holdC]
    omega
  obtain ⟨W2, hW2⟩ : ∃ W2, W2 = W1.setRow N Row1 := ⟨_, rfl⟩
  obtain ⟨Row2, hRow2⟩ : ∃ A : Array Value, A = (Row1.toList.take ((i + 1) * 3) ++ holdsC (l.drop i) ++ Row1.toList.drop ((i + 1) * 3 + (holdsC (l.drop i)).length)).toArray := ⟨_, rfl⟩
  have hcellW2 : ∀ j u, (holdsC l)[j]? = some u → W2.cell? ⟨g, j, none⟩ = some u := fun j u hu => by
    rw [hW2, cell_setRow_other _ _ _ _ hgN]
    exact hcellW1 j u hu
  have hB2 : Below base W W2 := by rw [hW2]; exact below_setRow hB1 hNb _
  rw [← hW2] at hcp1 hN1
  have hcp2 : ∀ ty dc sc, (Builtin.copy_ #[38, 38] ty #[.slice (some ⟨N, (i + 1) * 3, none⟩) (l.length - i) dc, .slice (some ⟨g, i * 3, none⟩) (l.length - i) sc]).run Tryz.prog W2.drew = .ok (goInt (Nat.min (l.length - i) (l.length - i))) (W2.drew.setRow N Row2) := fun ty dc sc => by
    rw [hRow2]
    refine run_copy_k W2.drew _ _ ty 49 N ((i + 1) * 3) (l.length - i) dc ⟨g, i * 3, none⟩ (l.length - i) sc 3 Row1 49 (holdsC (l.drop i)) Tryz.underlying38 hsz hN1 ?_ ?_ ?_ (holdsC_one _)
    · rw [hDl]; simp only [Nat.min_def]; split <;> omega
    · intro j u hj
      rw [Go.WideShapes.add_plain]
      exact hcellW2 _ u (by rw [hPD, List.getElem?_append_right (by omega), hPl, Nat.add_sub_cancel_left]; exact hj)
    · have : Row1.size = G * 3 := by simpa using hR1
      rw [this, hDl]; omega
  have hg2 : (W2.drew.setRow N Row2).heap[N]? = some (.cells Row2 49 (0, 0)) := setRow_heap _ N Row1 Row2 _ _ hN1
  have hrow : Row2.toList = holdsC (l.take i) ++ holdC x ++ holdsC (l.drop i) ++ R.drop (3 + (holdsC (l.drop i)).length) := by
    have := grow_rows (holdsC (l.take i)) (holdsC (l.drop i)) R (holdC x) rfl ROW.toList hR (i * 3) ((i + 1) * 3) hPl.symm (by omega)
    rw [hRow2, hRow1]
    simpa using this
  have hout : (W2.drew.setRow N Row2).ownsRow base 49 3 (.slice (some ⟨N, 0, none⟩) (l.length + 1) G) (l.length + 1) (holdsC (l.take i ++ ([x] ++ l.drop i))) := by
    have hE : holdsC (l.take i ++ ([x] ++ l.drop i)) = holdsC (l.take i) ++ holdC x ++ holdsC (l.drop i) := by rw [holdsC_append, holdsC_append]; simp [holdsC]
    have hEl : (holdsC (l.take i) ++ holdC x ++ holdsC (l.drop i)).length = (l.length + 1) * 3 := by
      rw [List.length_append, List.length_append, hPl, hDl]; simp [holdC]; omega
    refine ⟨by rw [hE, hEl], .inr ⟨N, G, Row2, rfl, hNb, hg2, hGn, hGm, ?_, ?_⟩⟩
    · have : Row2.toList.length = G * 3 := by rw [hrow, List.length_append, hEl, List.length_drop, hRR, hDl]; omega
      simpa using this
    · rw [hrow, hE, ← hEl, List.take_left']
      rfl
  have HO := Lib.hid hout
  have HBB := Lib.hid (below_setRow (w := W2.drew) hB2.drew hNb Row2)
  have hz2 : ¬ ((i : Int) = (l.length : Int)) := by omega
  have hz3 : (cap : Int) < (l.length : Int) + 1 := by omega
  have hw1 : IntKind.i64.wrap ((i : Int) + 1) = (i : Int) + 1 := IntWalk.i64_in _ (by omega)
  have hb1 : (0 : Int) ≤ (i : Int) + 1 := by omega
  have htn : ((i : Int) + 1).toNat = i + 1 := by omega
  unfold maxLen at hGm
  have hGi : ¬ (G = i) := by omega
  have hGim : ¬ (G = i + 1) := by omega
  have hci : ¬ (cap = i) := by omega
  have hb3 : (i : Int) ≤ (l.length : Int) := by omega
  have hin : i ≤ l.length := by omega
  have mixed : Tryz.prog.follows .mixedOrders = true := by kernel_rfl
  clear hW2 hNe hout hrow hg2 hB2 hcellW2 hRow2 hR1 hRow1 hcellW1 hRR hR hRl hB1 hN hW1 hPD hDl hPl hik hG hcs htk hvW1
  go_enter Tryz.func77, Tryz.ntmps77
  go_wp2_with (first
    | (at_builtin; refine Lib.wpList_append_run _ rfl _ _ _ _ rfl _ _ rfl rfl _ _ (hrz _) ?_)
    | (at_builtin; refine wpList_copy_runI _ rfl _ _ 38 38 rfl _ _ rfl rfl (hcp1 _ _) ?_))

  go_region_law_o (refine step_copy_runI rfl _ _ 38 38 rfl (.slice (some ⟨N, (i + 1) * 3, none⟩) (l.length - i) (G - (i + 1))) (.slice (some ⟨g, i * 3, none⟩) (l.length - i) (cap - i)) (by simp [Act.eval, Act.put]) (by simp [Act.eval, Act.put]) (hcp2 _ _ _) ?_)
  go_wp2
  go_ret
  exact ⟨_, rfl, HO.out, HBB.out⟩
end Go.Proofs.YtpncnkihfijmaaaGreatDoor
namespace Go.Proofs.YtpncnkihfijmaaaGreatDoor
open Go.ChangeShapes Go.WideShapes Go.ChangeAt Go.RowKit Go.ChangeMaps
set_option maxRecDepth 10000
set_option linter.unusedSimpArgs false
set_option linter.unusedVariables false
attribute [local go_sem] Oper.semAt_some

/-- One look. -/
def lookN (l : List HD) (x : HD) (p i : Nat) : Nat := if p = l.length ∧ lessB (hAt l i) x = false then i else p
/-- The place as far as it is known behind those that came. -/
def placeF (l : List HD) (x : HD) (pre : List (Fin l.length)) : Nat := (pre.map (·.1)).foldl (lookN l x) l.length
theorem placeF_snoc (l : List HD) (x : HD) (pre : List (Fin l.length)) (y : Fin l.length) : placeF l x (pre ++ [y]) = lookN l x (placeF l x pre) y.1 := by
  simp [placeF, List.foldl_append]
theorem placeL_less {x y : HD} : ∀ {l : List HD} {i : Nat}, i < placeL l x → l[i]? = some y → lessB y x = true
  | [], i, _, h => by simp at h
  | z :: l, i, hi, h => by
    unfold placeL at hi
    rw [List.takeWhile_cons] at hi
    cases hz : lessB z x
    · rw [hz] at hi; simp at hi
    · rw [hz] at hi
      simp only [if_true, List.length_cons] at hi
      cases i with
      | zero => simp only [List.getElem?_cons_zero, Option.some.injEq] at h; subst h; exact hz
      | succ i => exact placeL_less (l := l) (i := i) (by unfold placeL; omega) (by simpa using h)
theorem placeL_not {x y : HD} : ∀ {l : List HD}, l[placeL l x]? = some y → lessB y x = false
  | [], h => by simp at h
  | z :: l, h => by
    cases hz : lessB z x
    · have e : placeL (z :: l) x = 0 := by simp [placeL, List.takeWhile_cons, hz]
      rw [e] at h
      simp only [List.getElem?_cons_zero, Option.some.injEq] at h
      subst h
      exact hz
    · have e : placeL (z :: l) x = placeL l x + 1 := by simp [placeL, List.takeWhile_cons, hz]
      rw [e] at h
      exact placeL_not (l := l) (by simpa using h)
theorem look_range (l : List HD) (x : HD) : ∀ k, k ≤ l.length → (List.range k).foldl (lookN l x) l.length = if placeL l x < k then placeL l x else l.length
  | 0, _ => by simp
  | k + 1, hk => by
    have hx := at_hAt (l := l) (j := k) (by omega)
    rw [List.range_succ, List.foldl_append, look_range l x k (by omega)]
    simp only [List.foldl_cons, List.foldl_nil, lookN]
    by_cases h : placeL l x < k
    · have h' : placeL l x < k + 1 := by omega
      have hn : ¬ (placeL l x = l.length ∧ lessB (hAt l k) x = false) := fun hh => by omega
      rw [if_pos h, if_pos h', if_neg hn]
    · rw [if_neg h]
      by_cases h2 : placeL l x = k
      · have h' : placeL l x < k + 1 := by omega
        have hp : l.length = l.length ∧ lessB (hAt l k) x = false := ⟨rfl, placeL_not (l := l) (by rw [h2]; exact hx)⟩
        rw [if_pos h', if_pos hp]
        exact h2.symm
      · have h' : ¬ placeL l x < k + 1 := by omega
        have hn : ¬ (l.length = l.length ∧ lessB (hAt l k) x = false) := fun hh => by
          rw [placeL_less (l := l) (i := k) (by omega) hx] at hh
          cases hh.2
        rw [if_neg h', if_neg hn]
theorem placeF_all {l : List HD} {x : HD} {ys : List (Fin l.length)} (h : FirstK l.length ys) : placeF l x ys = placeL l x := by
  have e : ys.map (·.1) = List.range l.length := h
  rw [placeF, e, look_range l x l.length (Nat.le_refl _)]
  have := placeL_le l x
  split <;> omega
theorem placeF_le (l : List HD) (x : HD) (pre : List (Fin l.length)) : placeF l x pre ≤ l.length := by
  have : ∀ (q : List (Fin l.length)) (p : Nat), p ≤ l.length → (q.map (·.1)).foldl (lookN l x) p ≤ l.length := by
    intro q
    induction q with
    | nil => intro p hp; simpa using hp
    | cons y q ih =>
      intro p hp
      simp only [List.map_cons, List.foldl_cons]
      refine ih _ ?_
      unfold lookN
      have := y.2
      split <;> omega
  exact this pre _ (Nat.le_refl _)

/-- None of those that came is x. -/
def noneIs (l : List HD) (x : HD) (pre : List (Fin l.length)) : Prop := ∀ y ∈ pre, hAt l y.1 ≠ x
theorem noneIs_all {l : List HD} {x : HD} {ys : List (Fin l.length)} (hS : FirstK l.length ys) (h : noneIs l x ys) : x ∉ l := by
  intro hx
  obtain ⟨i, hi, he⟩ := List.getElem_of_mem hx
  have h1 : i ∈ ys.map (·.1) := by rw [show ys.map (·.1) = List.range l.length from hS]; exact List.mem_range.2 hi
  obtain ⟨y, hy, rfl⟩ := List.mem_map.1 h1
  refine h y hy ?_
  rw [hAt_of (List.getElem?_eq_getElem hi)]
  exact he

def PlaceI (l : List HD) (x : HD) (A : Option Addr) (cap : Nat) (w : World) (pre : List (Fin l.length)) (W : World) : Prop :=
  (noneIs l x pre ∧ (Block W w.heap.size 38 #[.slice A l.length cap] ∧ (Block W (w.heap.size + 1) 49 #[.string x.f, .int .i64 x.r, .int .i64 x.c] ∧ (Block W (w.heap.size + 1 + 1) 3 #[.int .i64 (placeF l x pre : Int)] ∧ Block W (w.heap.size + 1 + 1 + 1) 4 #[.bool false])))) ∧ Below w.heap.size w W
def PlaceIx (l : List HD) (x : HD) (w : World) (c : Code) (pre : List (Fin l.length)) (W : World) : Prop :=
  ((c = .exit 0 ∧ x ∈ l) ∧ (Block W (w.heap.size + 1 + 1) 3 #[.int .i64 (placeF l x pre.dropLast : Int)] ∧ Block W (w.heap.size + 1 + 1 + 1) 4 #[.bool true])) ∧ Below w.heap.size w W
def PlaceAx (l : List HD) (x : HD) (A : Option Addr) (cap : Nat) (w : World) (y : Fin l.length) (a' : Act) (W : World) : Prop :=
  ∃ Bx, w.heap.size + 3 < Bx ∧ Block W Bx 49 #[.string (hAt l y.1).f, .int .i64 (hAt l y.1).r, .int .i64 (hAt l y.1).c] ∧ a' = { tmps := #[.slice A l.length cap, holdV x.f x.r x.c, .pointer (some ⟨w.heap.size, 0, none⟩), .pointer (some ⟨w.heap.size + 1, 0, none⟩), .int .i64 0, .bool false, .pointer (some ⟨w.heap.size + 1 + 1, 0, none⟩), .pointer (some ⟨w.heap.size + 1 + 1 + 1, 0, none⟩), .int .i64 (y.1 : Int), .pointer (some ⟨Bx, 0, none⟩), .slice A l.length cap, .int .i64 l.length, .slice A l.length cap, .func (.func 104) #[] #[.pointer (some ⟨w.heap.size + 1 + 1 + 1 + 1, 0, none⟩)], .int .i64 (y.1 : Int), holdV (hAt l y.1).f (hAt l y.1).r (hAt l y.1).c, undef, undef, undef, undef, undef, undef, undef, undef, undef, undef, undef, undef, undef, undef, undef, undef, undef, undef], defers := [] }

/-- A scope out of which nothing jumps, inside the wide fence; what holds behind it stays a variable. -/
theorem wpIn_scope_var {n : Nat} {P : Program} {c : Code} {Q : Exit → Act → World → Prop} {a : Act} {w : World} (h : ∀ Q2 : Exit → Act → World → Prop, (∀ a w, Q .ret a w → Q2 .ret a w) → c.wpIn Fence.wide n P Q2 a w) : (Code.scope c).wpIn Fence.wide n P Q a w :=
  wpIn_wide.2 (wp_scope_straight ((wpIn_wide (n := n)).1 (h (Exit.noGoto Q) fun _ _ h => h)))

set_option maxRecDepth 100000 in
set_option maxHeartbeats 2000000 in
theorem holdPlace_any (l : List HD) (x : HD) (A : Option Addr) (cap : Nat) (w : World) (hl : Lies w w.heap.size 3 A l.length (holdsC l)) (hm : l.length ≤ 1099511627) :
    Calls Tryz.prog 75 #[.slice A l.length cap, holdV x.f x.r x.c] w fun e w' => ∃ p : Nat, e = .returned (.tuple #[.int .i64 (p : Int), .bool (decide (x ∈ l))]) ∧ (x ∉ l → p = placeL l x) ∧ p ≤ l.length ∧ Below w.heap.size w w' := by
  refine (callsIn_wide (n := 6)).1 ?_
  refine callsIn_of_wp_marks Tryz.func75 rfl trivial ?_ rfl
  simp only [Tryz.ntmps75, List.size_toArray, List.length_cons, List.length_nil, Nat.reduceAdd, Nat.reduceSub, Array.replicate_succ, Array.replicate_zero, List.push_toArray, List.append_toArray, List.nil_append, List.cons_append]
  have hfe : Fence.wide.fn 66 := trivial
  gi_wp2_with fail
  refine wpIn_scope_var fun Q2 hQ2 => ?_
  gi_wp2_with fail
  refine wpIn_label ?_
  gi_wp2_with (gi_at_call 66; refine (each_in Fence.wide 5 hfe rfl _ _ _ _).mono ?_; rintro e w' ⟨rfl, rfl⟩)
  have bL := ((((Block.new w #[.slice A l.length cap] 38).alloc (.cells #[.string x.f, .int .i64 x.r, .int .i64 x.c] 49)).alloc (.cells #[.int .i64 (l.length : Int)] 3)).alloc (.cells #[.bool false] 4)).alloc (.cells #[.slice A l.length cap] 38)
  have bX := (((Block.new (w.alloc (.cells #[.slice A l.length cap] 38)) #[.string x.f, .int .i64 x.r, .int .i64 x.c] 49).alloc (.cells #[.int .i64 (l.length : Int)] 3)).alloc (.cells #[.bool false] 4)).alloc (.cells #[.slice A l.length cap] 38)
  have bP := ((Block.new ((w.alloc (.cells #[.slice A l.length cap] 38)).alloc (.cells #[.string x.f, .int .i64 x.r, .int .i64 x.c] 49)) #[.int .i64 (l.length : Int)] 3).alloc (.cells #[.bool false] 4)).alloc (.cells #[.slice A l.length cap] 38)
  have bT := (Block.new (((w.alloc (.cells #[.slice A l.length cap] 38)).alloc (.cells #[.string x.f, .int .i64 x.r, .int .i64 x.c] 49)).alloc (.cells #[.int .i64 (l.length : Int)] 3)) #[.bool false] 4).alloc (.cells #[.slice A l.length cap] 38)
  have bC := Block.new ((((w.alloc (.cells #[.slice A l.length cap] 38)).alloc (.cells #[.string x.f, .int .i64 x.r, .int .i64 x.c] 49)).alloc (.cells #[.int .i64 (l.length : Int)] 3)).alloc (.cells #[.bool false] 4)) #[.slice A l.length cap] 38
  have hB0 : Below w.heap.size w (((((w.alloc (.cells #[.slice A l.length cap] 38)).alloc (.cells #[.string x.f, .int .i64 x.r, .int .i64 x.c] 49)).alloc (.cells #[.int .i64 (l.length : Int)] 3)).alloc (.cells #[.bool false] 4)).alloc (.cells #[.slice A l.length cap] 38)) := (((((Below.refl _ w).alloc (Nat.le_refl _) _).alloc (by simp) _).alloc (by simp; omega) _).alloc (by simp; omega) _).alloc (by simp; omega) _
  simp only [World.size_alloc] at bX bP bT bC
  have hsz : (((((w.alloc (.cells #[.slice A l.length cap] 38)).alloc (.cells #[.string x.f, .int .i64 x.r, .int .i64 x.c] 49)).alloc (.cells #[.int .i64 (l.length : Int)] 3)).alloc (.cells #[.bool false] 4)).alloc (.cells #[.slice A l.length cap] 38)).heap.size = w.heap.size + 5 := by simp
  obtain ⟨W0, hW0⟩ : ∃ W0, ((((w.alloc (.cells #[.slice A l.length cap] 38)).alloc (.cells #[.string x.f, .int .i64 x.r, .int .i64 x.c] 49)).alloc (.cells #[.int .i64 (l.length : Int)] 3)).alloc (.cells #[.bool false] 4)).alloc (.cells #[.slice A l.length cap] 38) = W0 := ⟨_, rfl⟩
  rw [hW0] at bL bX bP bT bC hB0 hsz ⊢
  clear hW0
  refine wpIn_rangeFunc_ownH rfl (by omega) (gf := 104) (lb := #[.pointer (some ⟨w.heap.size + 1 + 1 + 1 + 1, 0, none⟩)]) rfl trivial (enters_of Tryz.func104 (by kernel_rfl) rfl)
    (each_stops Fence.wide 5 trivial rfl (by omega) (w.heap.size + 1 + 1 + 1 + 1) w.heap.size cap A l hm W0 (by omega) (by omega) (bC.cell 0) (hl.below hB0)) belowK_t (belowK_b (by omega)) (Below.refl _ _) (fun _ => rfl)
    (PlaceI l x A cap w) (PlaceIx l x w)
    (OwnFrom.and (OwnFrom.and (ownFrom_pure _ _) (OwnFrom.and (Own.from (block_own _ _ _) _) (OwnFrom.and (Own.from (block_own _ _ _) _) (OwnFrom.and (Own.from (block_own _ _ _) _) (Own.from (block_own _ _ _) _))))) (ownFrom_below (Nat.le_refl _) (by omega)))
    (fun c => OwnFrom.and (OwnFrom.and (ownFrom_pure _ _) (OwnFrom.and (Own.from (block_own _ _ _) _) (Own.from (block_own _ _ _) _))) (ownFrom_below (Nat.le_refl _) (by omega)))
    ⟨⟨(by intro y hy; cases hy), bL, bX, bP, bT⟩, hB0⟩
    (PlaceAx l x A cap w)
    (fun y a' _ X Y row hs hg hr => by obtain ⟨Bx, h1, h2, h3⟩ := hs; exact ⟨Bx, h1, (block_own (β := Unit) Bx _ (fun _ => _)) () X Y row h2 hg (fun r e => (hr r e).2), h3⟩)
    ?assign ?body ?done ?stop
  case assign =>
    rintro lp pre y W K ⟨⟨hp, bL1, bX1, bP1, bT1⟩, hB1⟩ hK
    dsimp only [encP]
    gi_wp2
    exact hK _ _ ((KeepsOthers.alloc _ _).from _) ((Below.refl _ W).alloc hB1.size _) ⟨⟨hp, bL1.alloc _, bX1.alloc _, bP1.alloc _, bT1.alloc _⟩, hB1.alloc hB1.size _⟩ ⟨W.heap.size, bT1.lt, Block.new W _ _, rfl⟩
  case body =>
    rintro lp pre y a' W hlp ⟨r, hr⟩ ⟨⟨hp, bL1, bX1, bP1, bT1⟩, hB1⟩ ⟨Bx, hBx, bY, rfl⟩ hlt
    obtain ⟨i, hi⟩ := y
    have hple := placeF_le l x pre
    have HD : Hid ((pre ++ [(⟨i, hi⟩ : Fin l.length)]).dropLast = pre) := by simp [Hid]
    have HM : Hid (hAt l i = x → x ∈ l) := fun e => e ▸ List.mem_of_getElem? (at_hAt hi)
    have hIx : Hid (∀ W' : World, hAt l i = x → Block W' (w.heap.size + 1 + 1) 3 #[.int .i64 (placeF l x pre : Int)] → Block W' (w.heap.size + 1 + 1 + 1) 4 #[.bool true] → Below w.heap.size w W' → PlaceIx l x w (.exit 0) (pre ++ [⟨i, hi⟩]) W') := fun W' h1 h2 h3 h4 => ⟨⟨⟨rfl, HM.out h1⟩, by rw [HD.out]; exact h2, h3⟩, h4⟩
    have hI : Hid (∀ W' : World, hAt l i ≠ x → Block W' w.heap.size 38 #[.slice A l.length cap] → Block W' (w.heap.size + 1) 49 #[.string x.f, .int .i64 x.r, .int .i64 x.c] → Block W' (w.heap.size + 1 + 1) 3 #[.int .i64 (lookN l x (placeF l x pre) i : Int)] → Block W' (w.heap.size + 1 + 1 + 1) 4 #[.bool false] → Below w.heap.size w W' → PlaceI l x A cap w (pre ++ [⟨i, hi⟩]) W') := fun W' h1 h2 h3 h4 h5 h6 => ⟨⟨(fun y hy => by
        rcases List.mem_append.1 hy with h | h
        · exact hp y h
        · rw [List.mem_singleton.1 h]; exact h1), h2, h3, by rw [placeF_snoc]; exact h4, h5⟩, h6⟩
    have HL : Hid (lookN l x (placeF l x pre) i = if placeF l x pre = l.length ∧ lessB (hAt l i) x = false then i else placeF l x pre) := rfl
    dsimp only at *
    clear hp HM HD hlt bL bX bP bT bC hB0
    generalize placeF l x pre = p at *
    generalize hAt l i = Y at *
    obtain ⟨xf, xr, xc⟩ := x
    obtain ⟨yf, yr, yc⟩ := Y
    dsimp only at *
    have cL := bL1.cell 0
    have x0 := bX1.cell 0
    have x1 := bX1.cell 1
    have x2 := bX1.cell 2
    have cP := bP1.cell 0
    have fP := bP1.free 0
    have cT := bT1.cell 0
    have fT := bT1.free 0
    have y0 := bY.cell 0
    have y1 := bY.cell 1
    have y2 := bY.cell 2
    have hB1d := hB1.size
    by_cases hxy : (⟨yf, yr, yc⟩ : HD) = ⟨xf, xr, xc⟩
    · have hx' := hxy
      injection hxy with e1 e2 e3
      subst e1 e2 e3
      clear HL hI hx'
      gi_wp2_with fail
      exact ⟨(KeepsOthers.setCell _ _ _).from _, hIx.out _ (by trivial) (bP1.far (by simp) _) (bT1.set_ 0 _) (hB1.setCell (p := ⟨w.heap.size + 1 + 1 + 1, 0, none⟩) (by simp; omega) _)⟩
    · have HNE := Lib.hid hxy
      have hq := ne_parts hxy
      dsimp only at hq
      clear hxy hIx
      rcases hq with hq | ⟨rfl, hq⟩ | ⟨rfl, rfl, hq⟩
      · have hne := str_ne hq
        clear hq
        by_cases hpl : p = l.length
        · have hpi : ((p : Int) == (l.length : Int)) = true := by rw [hpl]; exact beq_self_eq_true _
          have HC : Hid (∀ W : World, Calls Tryz.prog 31 #[holdV yf yr yc, holdV xf xr xc] W fun e w' => e = .returned (.bool (lessB ⟨yf, yr, yc⟩ ⟨xf, xr, xc⟩)) ∧ Below W.heap.size W w') := fun W => iHoldLess_any ⟨yf, yr, yc⟩ ⟨xf, xr, xc⟩ W
          have HQ : Hid (lookN l ⟨xf, xr, xc⟩ p i = if lessB ⟨yf, yr, yc⟩ ⟨xf, xr, xc⟩ = false then i else p) := by
            rw [Hid, HL.out]
            simp [hpl]
          clear HL
          subst hpl
          generalize lessB ⟨yf, yr, yc⟩ ⟨xf, xr, xc⟩ = bl at *
          cases bl
          · gi_wp2_with fail
            refine ⟨trivial, (CallsIn.inRound lp (callsIn_wide.2 (HC.out _))).mono ?_⟩
            rintro e w1 ⟨rfl, hb1⟩
            have hB2 := hB1.trans (hb1.mono hB1.size)
            have hKp := hb1.mono hB1.size
            have hKf := keeps_of_below hb1 W0.heap.size
            have bL2 := bL1.on hb1
            have bX2 := bX1.on hb1
            have bP2 := bP1.on hb1
            have bT2 := bT1.on hb1
            have kP := bP2.cell 0
            have kF := bP2.free 0
            clear hb1
            gi_wp2_with fail
            exact ⟨hKf.trans ((KeepsOthers.setCell _ _ _).from _), hKp.setCell (p := ⟨w.heap.size + 1 + 1, 0, none⟩) (by simp; omega) _, hI.out _ HNE.out (bL2.far (by simp; omega) _) (bX2.far (by simp) _) (by rw [HQ.out]; exact bP2.set_ 0 _) (bT2.far (by simp) _) (hB2.setCell (p := ⟨w.heap.size + 1 + 1, 0, none⟩) (by simp; omega) _)⟩
          · gi_wp2_with fail
            refine ⟨trivial, (CallsIn.inRound lp (callsIn_wide.2 (HC.out _))).mono ?_⟩
            rintro e w1 ⟨rfl, hb1⟩
            have hB2 := hB1.trans (hb1.mono hB1.size)
            have hKp := hb1.mono hB1.size
            have hKf := keeps_of_below hb1 W0.heap.size
            have bL2 := bL1.on hb1
            have bX2 := bX1.on hb1
            have bP2 := bP1.on hb1
            have bT2 := bT1.on hb1
            clear hb1
            gi_wp2_with fail
            exact ⟨hKf, hKp, hI.out _ HNE.out bL2 bX2 (by rw [HQ.out]; exact bP2) bT2 hB2⟩
        · have hpi : ((p : Int) == (l.length : Int)) = false := beq_eq_false_iff_ne.2 (by omega)
          have hpj : ¬ ((p : Int) = (l.length : Int)) := by omega
          have HQ : Hid (lookN l ⟨xf, xr, xc⟩ p i = p) := by
            rw [Hid, HL.out, if_neg]
            rintro ⟨h1, -⟩
            exact hpl h1
          clear HL hpl
          gi_wp2_with fail
          refine ⟨trivial, ?_⟩
          gi_wp2_with fail
          exact ⟨KeepsFrom.refl _ _, Below.refl _ _, hI.out _ HNE.out bL1 bX1 (by rw [HQ.out]; exact bP1) bT1 hB1⟩
      · have hne : (yr == xr) = false := beq_eq_false_iff_ne.2 hq
        clear hq
        by_cases hpl : p = l.length
        · have hpi : ((p : Int) == (l.length : Int)) = true := by rw [hpl]; exact beq_self_eq_true _
          have HC : Hid (∀ W : World, Calls Tryz.prog 31 #[holdV yf yr yc, holdV yf xr xc] W fun e w' => e = .returned (.bool (lessB ⟨yf, yr, yc⟩ ⟨yf, xr, xc⟩)) ∧ Below W.heap.size W w') := fun W => iHoldLess_any ⟨yf, yr, yc⟩ ⟨yf, xr, xc⟩ W
          have HQ : Hid (lookN l ⟨yf, xr, xc⟩ p i = if lessB ⟨yf, yr, yc⟩ ⟨yf, xr, xc⟩ = false then i else p) := by
            rw [Hid, HL.out]
            simp [hpl]
          clear HL
          subst hpl
          generalize lessB ⟨yf, yr, yc⟩ ⟨yf, xr, xc⟩ = bl at *
          cases bl
          · gi_wp2_with fail
            refine ⟨trivial, (CallsIn.inRound lp (callsIn_wide.2 (HC.out _))).mono ?_⟩
            rintro e w1 ⟨rfl, hb1⟩
            have hB2 := hB1.trans (hb1.mono hB1.size)
            have hKp := hb1.mono hB1.size
            have hKf := keeps_of_below hb1 W0.heap.size
            have bL2 := bL1.on hb1
            have bX2 := bX1.on hb1
            have bP2 := bP1.on hb1
            have bT2 := bT1.on hb1
            have kP := bP2.cell 0
            have kF := bP2.free 0
            clear hb1
            gi_wp2_with fail
            exact ⟨hKf.trans ((KeepsOthers.setCell _ _ _).from _), hKp.setCell (p := ⟨w.heap.size + 1 + 1, 0, none⟩) (by simp; omega) _, hI.out _ HNE.out (bL2.far (by simp; omega) _) (bX2.far (by simp) _) (by rw [HQ.out]; exact bP2.set_ 0 _) (bT2.far (by simp) _) (hB2.setCell (p := ⟨w.heap.size + 1 + 1, 0, none⟩) (by simp; omega) _)⟩
          · gi_wp2_with fail
            refine ⟨trivial, (CallsIn.inRound lp (callsIn_wide.2 (HC.out _))).mono ?_⟩
            rintro e w1 ⟨rfl, hb1⟩
            have hB2 := hB1.trans (hb1.mono hB1.size)
            have hKp := hb1.mono hB1.size
            have hKf := keeps_of_below hb1 W0.heap.size
            have bL2 := bL1.on hb1
            have bX2 := bX1.on hb1
            have bP2 := bP1.on hb1
            have bT2 := bT1.on hb1
            clear hb1
            gi_wp2_with fail
            exact ⟨hKf, hKp, hI.out _ HNE.out bL2 bX2 (by rw [HQ.out]; exact bP2) bT2 hB2⟩
        · have hpi : ((p : Int) == (l.length : Int)) = false := beq_eq_false_iff_ne.2 (by omega)
          have hpj : ¬ ((p : Int) = (l.length : Int)) := by omega
          have HQ : Hid (lookN l ⟨yf, xr, xc⟩ p i = p) := by
            rw [Hid, HL.out, if_neg]
            rintro ⟨h1, -⟩
            exact hpl h1
          clear HL hpl
          gi_wp2_with fail
          refine ⟨trivial, ?_⟩
          gi_wp2_with fail
          exact ⟨KeepsFrom.refl _ _, Below.refl _ _, hI.out _ HNE.out bL1 bX1 (by rw [HQ.out]; exact bP1) bT1 hB1⟩
      · have hne : (yc == xc) = false := beq_eq_false_iff_ne.2 hq
        clear hq
        by_cases hpl : p = l.length
        · have hpi : ((p : Int) == (l.length : Int)) = true := by rw [hpl]; exact beq_self_eq_true _
          have HC : Hid (∀ W : World, Calls Tryz.prog 31 #[holdV yf yr yc, holdV yf yr xc] W fun e w' => e = .returned (.bool (lessB ⟨yf, yr, yc⟩ ⟨yf, yr, xc⟩)) ∧ Below W.heap.size W w') := fun W => iHoldLess_any ⟨yf, yr, yc⟩ ⟨yf, yr, xc⟩ W
          have HQ : Hid (lookN l ⟨yf, yr, xc⟩ p i = if lessB ⟨yf, yr, yc⟩ ⟨yf, yr, xc⟩ = false then i else p) := by
            rw [Hid, HL.out]
            simp [hpl]
          clear HL
          subst hpl
          generalize lessB ⟨yf, yr, yc⟩ ⟨yf, yr, xc⟩ = bl at *
          cases bl
          · gi_wp2_with fail
            refine ⟨trivial, (CallsIn.inRound lp (callsIn_wide.2 (HC.out _))).mono ?_⟩
            rintro e w1 ⟨rfl, hb1⟩
            have hB2 := hB1.trans (hb1.mono hB1.size)
            have hKp := hb1.mono hB1.size
            have hKf := keeps_of_below hb1 W0.heap.size
            have bL2 := bL1.on hb1
            have bX2 := bX1.on hb1
            have bP2 := bP1.on hb1
            have bT2 := bT1.on hb1
            have kP := bP2.cell 0
            have kF := bP2.free 0
            clear hb1
            gi_wp2_with fail
            exact ⟨hKf.trans ((KeepsOthers.setCell _ _ _).from _), hKp.setCell (p := ⟨w.heap.size + 1 + 1, 0, none⟩) (by simp; omega) _, hI.out _ HNE.out (bL2.far (by simp; omega) _) (bX2.far (by simp) _) (by rw [HQ.out]; exact bP2.set_ 0 _) (bT2.far (by simp) _) (hB2.setCell (p := ⟨w.heap.size + 1 + 1, 0, none⟩) (by simp; omega) _)⟩
          · gi_wp2_with fail
            refine ⟨trivial, (CallsIn.inRound lp (callsIn_wide.2 (HC.out _))).mono ?_⟩
            rintro e w1 ⟨rfl, hb1⟩
            have hB2 := hB1.trans (hb1.mono hB1.size)
            have hKp := hb1.mono hB1.size
            have hKf := keeps_of_below hb1 W0.heap.size
            have bL2 := bL1.on hb1
            have bX2 := bX1.on hb1
            have bP2 := bP1.on hb1
            have bT2 := bT1.on hb1
            clear hb1
            gi_wp2_with fail
            exact ⟨hKf, hKp, hI.out _ HNE.out bL2 bX2 (by rw [HQ.out]; exact bP2) bT2 hB2⟩
        · have hpi : ((p : Int) == (l.length : Int)) = false := beq_eq_false_iff_ne.2 (by omega)
          have hpj : ¬ ((p : Int) = (l.length : Int)) := by omega
          have HQ : Hid (lookN l ⟨yf, yr, xc⟩ p i = p) := by
            rw [Hid, HL.out, if_neg]
            rintro ⟨h1, -⟩
            exact hpl h1
          clear HL hpl
          gi_wp2_with fail
          refine ⟨trivial, ?_⟩
          gi_wp2_with fail
          exact ⟨KeepsFrom.refl _ _, Below.refl _ _, hI.out _ HNE.out bL1 bX1 (by rw [HQ.out]; exact bP1) bT1 hB1⟩
  case done =>
    rintro D ys W hD hS ⟨⟨hp, bL1, bX1, bP1, bT1⟩, hB1⟩ hK
    have hx := noneIs_all hS hp
    rw [placeF_all hS] at bP1
    have cP := bP1.cell 0
    have cT := bT1.cell 0
    have hmx : Tryz.prog.follows .mixedOrders = true := by kernel_rfl
    clear hp bL bX bP bT bC hl hS
    gi_wp2_with fail
    gi_region_o
    gi_wp2
    refine ⟨by simp, .inl ⟨_, _, rfl, run_takeDeferred (w := W.drew) hK, ?_⟩⟩
    refine ⟨.tuple #[.int .i64 (placeL l x : Int), .bool false], ?_, placeL l x, by rw [decide_eq_false hx], fun _ => rfl, placeL_le l x, hB1.drew.trans (belowK_b (w := w) (Nat.le_refl _) W.drew D _ _ (by omega) hK rfl rfl)⟩
    simp [results, Tryz.f75, go_sem]
  case stop =>
    rintro D c pre W hD ⟨k, hk, hF⟩ ⟨⟨⟨rfl, hx⟩, bP1, bT1⟩, hB1⟩ hK
    have cP := bP1.cell 0
    have cT := bT1.cell 0
    have hmx : Tryz.prog.follows .mixedOrders = true := by kernel_rfl
    have hle := placeF_le l x pre.dropLast
    clear bL bX bP bT bC hl
    gi_wp2_with fail
    gi_region_o
    gi_wp2
    refine ⟨by simp, .inl ⟨_, _, rfl, run_takeDeferred (w := W.drew) hK, ?_⟩⟩
    refine ⟨.tuple #[.int .i64 (placeF l x pre.dropLast : Int), .bool true], ?_, placeF l x pre.dropLast, by rw [decide_eq_true hx], fun h => absurd hx h, hle, hB1.drew.trans (belowK_b (w := w) (Nat.le_refl _) W.drew D _ _ (by omega) hK rfl rfl)⟩
    simp [results, Tryz.f75, go_sem]
end Go.Proofs.YtpncnkihfijmaaaGreatDoor
namespace Go.Proofs.YtpncnkihfijmaaaGreatDoor
open Go.ChangeShapes Go.WideShapes Go.ChangeAt Go.RowKit Go.ChangeMaps
set_option maxRecDepth 10000
set_option linter.unusedSimpArgs false
set_option linter.unusedVariables false

/-- joined of one text, in a block laid for it, a draw ago. -/
theorem joined_lone (a : ByteArray) (W : World) (e' : TypeId) (g : Nat) (hg : g = W.heap.size) (h : a.size ≤ 1099511627776) :
    Calls Tryz.prog 68 #[.slice (some ⟨g, 0, none⟩) 1 1] (W.alloc (.cells #[.string a] e')).drew fun e w' => e = .returned (.string a) ∧ Below W.heap.size W w' := by
  subst hg
  exact (joined_one a W.drew e' h).mono fun e w' ⟨h1, h2⟩ => ⟨h1, (Below.refl _ W).drew.trans h2⟩

set_option maxHeartbeats 4000000 in
theorem holdCopy_any (x : HD) (w : World) (hx : x.f.size ≤ 1099511627776) :
    Calls Tryz.prog 78 #[holdV x.f x.r x.c] w fun e w' => e = .returned (holdV x.f x.r x.c) ∧ Below w.heap.size w w' := by
  obtain ⟨f, r, c⟩ := x
  dsimp only at *
  have hq : (w.alloc (.cells #[.string f, .int .i64 r, .int .i64 c] 49)).heap.size = w.heap.size + 1 := by simp
  have HJ := Lib.hid (joined_lone f ((w.alloc (.cells #[.string f, .int .i64 r, .int .i64 c] 49)).alloc (.cells #[.string ⟨#[]⟩, .int .i64 0, .int .i64 0] 49)) 9 (w.heap.size + 1 + 1) (by simp) hx)
  have bX := (Block.new w #[.string f, .int .i64 r, .int .i64 c] 49).alloc (.cells #[.string ⟨#[]⟩, .int .i64 0, .int .i64 0] 49)
  have bR := Block.new (w.alloc (.cells #[.string f, .int .i64 r, .int .i64 c] 49)) #[.string ⟨#[]⟩, .int .i64 0, .int .i64 0] 49
  rw [hq] at bR
  have hB : Below w.heap.size w ((w.alloc (.cells #[.string f, .int .i64 r, .int .i64 c] 49)).alloc (.cells #[.string ⟨#[]⟩, .int .i64 0, .int .i64 0] 49)) := ((Below.refl _ w).alloc (Nat.le_refl _) _).alloc (by simp) _
  have hs : ((w.alloc (.cells #[.string f, .int .i64 r, .int .i64 c] 49)).alloc (.cells #[.string ⟨#[]⟩, .int .i64 0, .int .i64 0] 49)).heap.size = w.heap.size + 2 := by simp
  obtain ⟨W2, hW2⟩ : ∃ W2, W2 = (w.alloc (.cells #[.string f, .int .i64 r, .int .i64 c] 49)).alloc (.cells #[.string ⟨#[]⟩, .int .i64 0, .int .i64 0] 49) := ⟨_, rfl⟩
  have HP : Hid (∀ w1, Below W2.heap.size W2 w1 → Block w1 w.heap.size 49 #[.string f, .int .i64 r, .int .i64 c] ∧ Block w1 (w.heap.size + 1) 49 #[.string ⟨#[]⟩, .int .i64 0, .int .i64 0] ∧ Below w.heap.size w w1) := fun w1 h => by
    rw [← hW2] at bX bR hB hs
    exact ⟨bX.below h (by omega), bR.below h (by omega), hB.trans (h.mono (by omega))⟩
  rw [hW2] at HP
  clear hW2 W2 bX bR hq hB hs
  go_enter Tryz.func78, Tryz.ntmps78
  go_wp2_with fail
  go_region_with (go_at_call 68; refine HJ.out.mono ?_; rintro e w1 ⟨rfl, hb1⟩; obtain ⟨bX, bR, hB⟩ := HP.out _ hb1; have x0 := bX.cell 0; have x1 := bX.cell 1; have x2 := bX.cell 2; have r0 := bR.cell 0; have r1 := bR.cell 1; have r2 := bR.cell 2; have f0 := bR.free 0; have f1 := bR.free 1; have f2 := bR.free 2; clear hb1)
  all_goals
    have bR3 := ((bR.set_ 0 (.string f)).set_ 1 (.int .i64 r)).set_ 2 (.int .i64 c)
    have d0 := bR3.cell 0
    have d1 := bR3.cell 1
    have d2 := bR3.cell 2
    have hB3 := ((hB.setCell (p := ⟨w.heap.size + 1, 0, none⟩) (by simp) (.string f)).setCell (p := ⟨w.heap.size + 1, 1, none⟩) (by simp) (.int .i64 r)).setCell (p := ⟨w.heap.size + 1, 2, none⟩) (by simp) (.int .i64 c)
    clear bR bX r0 r1 r2 x0 x1 x2
    go_wp2
    refine bodyPost_ret (v := holdV f r c) (by simp [results, Tryz.results78, go_sem, d0, d1, d2]) rfl ?_
    exact ⟨rfl, hB3⟩
end Go.Proofs.YtpncnkihfijmaaaGreatDoor
namespace Go.Proofs.YtpncnkihfijmaaaGreatDoor
open Go.ChangeShapes Go.WideShapes Go.ChangeAt Go.RowKit Go.ChangeMaps
set_option maxRecDepth 10000
set_option linter.unusedSimpArgs false
set_option linter.unusedVariables false
attribute [local go_sem] Oper.semAt_some

def CopyI (l : List HD) (w : World) (pre : List (Fin l.length)) (W : World) : Prop :=
  (∃ v, Boxed W w.heap.size 38 v ∧ W.ownsRow w.heap.size 49 3 v pre.length (holdsC (came l pre)) ∧ True) ∧ Below w.heap.size w W
def CopyAx (l : List HD) (A : Option Addr) (cap : Nat) (w : World) (x : Fin l.length) (a' : Act) (W : World) : Prop :=
  ∃ Bx, w.heap.size < Bx ∧ Block W Bx 49 #[.string (hAt l x.1).f, .int .i64 (hAt l x.1).r, .int .i64 (hAt l x.1).c] ∧ a' = { tmps := #[.slice A l.length cap, undef, .slice none 0 0, .pointer (some ⟨w.heap.size, 0, none⟩), undef, .pointer (some ⟨Bx, 0, none⟩), .slice A l.length cap, .func (.func 104) #[] #[.pointer (some ⟨w.heap.size + 1, 0, none⟩)], .int .i64 (x.1 : Int), holdV (hAt l x.1).f (hAt l x.1).r (hAt l x.1).c, undef, undef, undef, undef, undef, undef], defers := [] }

set_option maxRecDepth 100000 in
set_option maxHeartbeats 2000000 in
theorem holdsCopy_any (l : List HD) (A : Option Addr) (cap : Nat) (w : World) (hl : Lies w w.heap.size 3 A l.length (holdsC l)) (hm : l.length ≤ 1099511626) (hf : ∀ x ∈ l, x.f.size ≤ 1099511627776) :
    Calls Tryz.prog 76 #[.slice A l.length cap] w fun e w' => ∃ v, e = .returned v ∧ w'.ownsRow w.heap.size 49 3 v l.length (holdsC l) ∧ Below w.heap.size w w' := by
  refine (callsIn_wide (n := 6)).1 ?_
  refine callsIn_of_wp_marks Tryz.func76 rfl trivial ?_ rfl
  simp only [Tryz.ntmps76, List.size_toArray, List.length_cons, List.length_nil, Nat.reduceAdd, Nat.reduceSub, Array.replicate_succ, Array.replicate_zero, List.push_toArray, List.append_toArray, List.nil_append, List.cons_append]
  have hfe : Fence.wide.fn 66 := trivial
  gi_wp2_with (gi_at_call 66; refine (each_in Fence.wide 5 hfe rfl _ _ _ _).mono ?_; rintro e w' ⟨rfl, rfl⟩)
  have bO := (Boxed.new w 38 (.slice none 0 0)).alloc (.cells #[.slice A l.length cap] 38)
  have bC := Block.new (w.alloc (.cells #[.slice none 0 0] 38)) #[.slice A l.length cap] 38
  simp only [World.size_alloc] at bC
  have hB0 : Below w.heap.size w ((w.alloc (.cells #[.slice none 0 0] 38)).alloc (.cells #[.slice A l.length cap] 38)) := ((Below.refl _ w).alloc (Nat.le_refl _) _).alloc (by simp) _
  have hsz : ((w.alloc (.cells #[.slice none 0 0] 38)).alloc (.cells #[.slice A l.length cap] 38)).heap.size = w.heap.size + 2 := by simp
  obtain ⟨W0, hW0⟩ : ∃ W0, (w.alloc (.cells #[.slice none 0 0] 38)).alloc (.cells #[.slice A l.length cap] 38) = W0 := ⟨_, rfl⟩
  rw [hW0] at bO bC hB0 hsz ⊢
  clear hW0
  refine wpIn_rangeFunc_ownH rfl (by omega) (gf := 104) (lb := #[.pointer (some ⟨w.heap.size + 1, 0, none⟩)]) rfl trivial (enters_of Tryz.func104 (by kernel_rfl) rfl)
    (each_stops Fence.wide 5 trivial rfl (by omega) (w.heap.size + 1) w.heap.size cap A l (by omega) W0 (by omega) (by omega) (bC.cell 0) (hl.below hB0)) belowK_t (belowK_b (by omega)) (Below.refl _ _) (fun _ => rfl)
    (CopyI l w) (fun _ _ _ => False)
    (OwnFrom.and (Own.from (holdsRow_own w.heap.size w.heap.size 38 49 3 (fun pre => pre.length) (fun pre => holdsC (came l pre)) (fun _ _ => True)) _) (ownFrom_below (Nat.le_refl _) (by omega)))
    (fun c => fun _ _ _ _ h => h.elim)
    ⟨⟨_, bO, World.ownsRow_nil _ _ _ _, trivial⟩, hB0⟩
    (CopyAx l A cap w)
    (fun x a' _ X Y row hs hg hr => by obtain ⟨Bx, h1, h2, h3⟩ := hs; exact ⟨Bx, h1, (block_own (β := Unit) Bx _ (fun _ => _)) () X Y row h2 hg (fun r e => (hr r e).2), h3⟩)
    ?assign ?body ?done ?stop
  case assign =>
    rintro lp pre x W K ⟨⟨v, hv, hrow, -⟩, hB1⟩ hK
    dsimp only [encP]
    gi_wp2
    exact hK _ _ ((KeepsOthers.alloc _ _).from _) ((Below.refl _ W).alloc hB1.size _) ⟨⟨v, hv.alloc _, hrow.alloc _, trivial⟩, hB1.alloc hB1.size _⟩ ⟨W.heap.size, hv.lt, Block.new W _ _, rfl⟩
  case body =>
    rintro lp pre x a' W hlp ⟨r, hr⟩ ⟨⟨v, hv, hrow, -⟩, hB1⟩ ⟨Bx, hBx, bX, rfl⟩ hlt
    have hx := at_hAt x.2
    have hxs := hf _ (List.mem_of_getElem? hx)
    have HS := Lib.hid (came_snoc l pre x)
    have HC : Hid (∀ W : World, Calls Tryz.prog 78 #[holdV (hAt l x.1).f (hAt l x.1).r (hAt l x.1).c] W fun e w' => e = .returned (holdV (hAt l x.1).f (hAt l x.1).r (hAt l x.1).c) ∧ Below W.heap.size W w') := fun W => holdCopy_any _ W hxs
    have hlen : pre.length + 1 ≤ 1099511627 := by omega
    have HN : Hid ((pre ++ [x]).length = pre.length + 1) := by simp [Hid]
    obtain ⟨i, hi⟩ := x
    dsimp only at *
    generalize hAt l i = X at *
    have HP : Hid (∀ w1, Below W.drew.heap.size W.drew w1 → w1.cell? ⟨w.heap.size, 0, none⟩ = some v ∧ (∀ o, (w1.alloc o).cell? ⟨w.heap.size, 0, none⟩ = some v) ∧ ∃ g c w2,
        (Builtin.append_ #[38, 38] 38 #[v, .slice (some ⟨w1.heap.size, 0, none⟩) 1 1]).run Tryz.prog (w1.alloc (.cells #[.string X.f, .int .i64 X.r, .int .i64 X.c] 49)) = .ok (.slice (some ⟨g, 0, none⟩) (pre.length + 1) c) w2 ∧
        w2.cell? ⟨w.heap.size, 0, none⟩ = some v ∧ w2.frozen? ⟨w.heap.size, 0, none⟩ = false ∧
        Hid (KeepsFrom W0.heap.size W (w2.setCell ⟨w.heap.size, 0, none⟩ (.slice (some ⟨g, 0, none⟩) (pre.length + 1) c)) ∧ Below w.heap.size W (w2.setCell ⟨w.heap.size, 0, none⟩ (.slice (some ⟨g, 0, none⟩) (pre.length + 1) c)) ∧
          CopyI l w (pre ++ [⟨i, hi⟩]) (w2.setCell ⟨w.heap.size, 0, none⟩ (.slice (some ⟨g, 0, none⟩) (pre.length + 1) c)))) := fun w1 hb1 => by
      have hz := hB1.size
      have hz1 : W.heap.size ≤ w1.heap.size := hb1.size
      have hv1 : Boxed w1 w.heap.size 38 v := (show Boxed W.drew _ _ _ from hv).kept (row := none) (grown_of_below hb1 none) (by simp)
      have hr1 : w1.ownsRow w.heap.size 49 3 v pre.length (holdsC (came l pre)) := ownsRow_below (w := W.drew) hrow hb1
      obtain ⟨v', w2, hrun, hown2, hg2⟩ := run_append_last (P := Tryz.prog) (ty := 38) (e' := 49) (cs := #[.string X.f, .int .i64 X.r, .int .i64 X.c]) Tryz.underlying38 info_hold rfl (by decide) (by decide) hr1 rfl (fun u hu => holdsC_one [X] u (by simpa [holdsC, holdC] using hu)) hlen (by omega)
      obtain ⟨g, c, rfl⟩ := ownsRow_succ hown2
      obtain ⟨q1, q2, q3, q4, q5⟩ := Boxed.appended hv1 (by decide) hr1 (by omega) (Nat.le_refl _) hown2 hg2
      have hD : Below w.heap.size W w1 := ((Below.refl _ W).drew.trans hb1).mono hz
      refine ⟨hv1.cell, fun o => (hv1.alloc o).cell, g, c, w2, hrun, q1.cell, q1.frozen, ?_, hD.trans q5, ⟨_, q2, ?_, trivial⟩, (hB1.trans hD).trans q5⟩
      · exact (((KeepsOthers.drew _).from _).trans (keeps_of_below hb1 _)).trans (q4.from _)
      · rw [HN.out, HS.out]
        exact q3
    have c0 := hv.cell
    have z0 := hv.frozen
    have x0 := bX.cell 0
    have x1 := bX.cell 1
    have x2 := bX.cell 2
    have hmx : Tryz.prog.follows .mixedOrders = true := by kernel_rfl
    clear hx hl hlt bO bC hB0 hv hrow bX
    gi_wp2_with fail
    refine wpIn_region_any (by assumption) ?_
    try (change wpAnyIn _ _ _ _ _ _ _ _ _ (World.drew _))
    refine wpAnyIn_ready (rs := [0, 1]) (by kernel_rfl) (by simp) ?_
    refine AllReadyIn.cons rfl (fun K hK => ?_) (AllReadyIn.cons rfl (fun K hK => ?_) AllReadyIn.nil)
    · go_simp
      refine hK _ _ ?_
      clear hK K
      refine wpAnyIn_ready (rs := [1]) (by kernel_rfl) (by simp) ?_
      refine AllReadyIn.cons rfl (fun K hK => ?_) AllReadyIn.nil
      · go_simp
        refine hK _ _ ?_
        clear hK K
        refine wpAnyIn_ready (rs := [2]) (by kernel_rfl) (by simp) ?_
        refine AllReadyIn.cons rfl (fun K hK => ?_) AllReadyIn.nil
        · go_simp
          gi_wp2_with (refine ⟨trivial, (CallsIn.inRound lp (callsIn_wide.2 (HC.out _))).mono ?_⟩; rintro e w1 ⟨rfl, hb1⟩; obtain ⟨k0, ka, g, c, w2, hrun, k1, k2, hpost⟩ := HP.out _ hb1; clear HP)
          refine wpAnyIn_ready (rs := [3]) (by kernel_rfl) (by simp) ?_
          refine AllReadyIn.cons rfl (fun K hK => ?_) AllReadyIn.nil
          · go_simp
            refine hK _ _ ?_
            clear hK K
            refine wpAnyIn_ready (rs := [4]) (by kernel_rfl) (by simp) ?_
            refine AllReadyIn.cons rfl (fun K hK => ?_) AllReadyIn.nil
            · refine stepIn_append_run rfl _ _ 38 rfl _ _ (by simp [Act.eval, Act.put]) (by simp [Act.eval, Act.put]) hrun ?_
              refine hK _ _ ?_
              clear hK K
              refine wpAnyIn_ready (rs := [5]) (by kernel_rfl) (by simp) ?_
              refine AllReadyIn.cons rfl (fun K hK => ?_) AllReadyIn.nil
              · go_simp
                refine hK _ _ ?_
                clear hK K
                refine wpAnyIn_done (by kernel_rfl) ?_ _
                gi_wp2
                exact hpost.out
    · go_simp
      refine hK _ _ ?_
      clear hK K
      refine wpAnyIn_ready (rs := [0, 2]) (by kernel_rfl) (by simp) ?_
      refine AllReadyIn.cons rfl (fun K hK => ?_) (AllReadyIn.cons rfl (fun K hK => ?_) AllReadyIn.nil)
      · go_simp
        refine hK _ _ ?_
        clear hK K
        refine wpAnyIn_ready (rs := [2]) (by kernel_rfl) (by simp) ?_
        refine AllReadyIn.cons rfl (fun K hK => ?_) AllReadyIn.nil
        · go_simp
          gi_wp2_with (refine ⟨trivial, (CallsIn.inRound lp (callsIn_wide.2 (HC.out _))).mono ?_⟩; rintro e w1 ⟨rfl, hb1⟩; obtain ⟨k0, ka, g, c, w2, hrun, k1, k2, hpost⟩ := HP.out _ hb1; clear HP)
          refine wpAnyIn_ready (rs := [3]) (by kernel_rfl) (by simp) ?_
          refine AllReadyIn.cons rfl (fun K hK => ?_) AllReadyIn.nil
          · go_simp
            refine hK _ _ ?_
            clear hK K
            refine wpAnyIn_ready (rs := [4]) (by kernel_rfl) (by simp) ?_
            refine AllReadyIn.cons rfl (fun K hK => ?_) AllReadyIn.nil
            · refine stepIn_append_run rfl _ _ 38 rfl _ _ (by simp [Act.eval, Act.put]) (by simp [Act.eval, Act.put]) hrun ?_
              refine hK _ _ ?_
              clear hK K
              refine wpAnyIn_ready (rs := [5]) (by kernel_rfl) (by simp) ?_
              refine AllReadyIn.cons rfl (fun K hK => ?_) AllReadyIn.nil
              · go_simp
                refine hK _ _ ?_
                clear hK K
                refine wpAnyIn_done (by kernel_rfl) ?_ _
                gi_wp2
                exact hpost.out
      · go_simp
        gi_wp2_with (refine ⟨trivial, (CallsIn.inRound lp (callsIn_wide.2 (HC.out _))).mono ?_⟩; rintro e w1 ⟨rfl, hb1⟩; obtain ⟨k0, ka, g, c, w2, hrun, k1, k2, hpost⟩ := HP.out _ hb1; clear HP)
        refine wpAnyIn_ready (rs := [0, 3]) (by kernel_rfl) (by simp) ?_
        refine AllReadyIn.cons rfl (fun K hK => ?_) (AllReadyIn.cons rfl (fun K hK => ?_) AllReadyIn.nil)
        · go_simp
          refine hK _ _ ?_
          clear hK K
          refine wpAnyIn_ready (rs := [3]) (by kernel_rfl) (by simp) ?_
          refine AllReadyIn.cons rfl (fun K hK => ?_) AllReadyIn.nil
          · go_simp
            refine hK _ _ ?_
            clear hK K
            refine wpAnyIn_ready (rs := [4]) (by kernel_rfl) (by simp) ?_
            refine AllReadyIn.cons rfl (fun K hK => ?_) AllReadyIn.nil
            · refine stepIn_append_run rfl _ _ 38 rfl _ _ (by simp [Act.eval, Act.put]) (by simp [Act.eval, Act.put]) hrun ?_
              refine hK _ _ ?_
              clear hK K
              refine wpAnyIn_ready (rs := [5]) (by kernel_rfl) (by simp) ?_
              refine AllReadyIn.cons rfl (fun K hK => ?_) AllReadyIn.nil
              · go_simp
                refine hK _ _ ?_
                clear hK K
                refine wpAnyIn_done (by kernel_rfl) ?_ _
                gi_wp2
                exact hpost.out
        · go_simp
          refine hK _ _ ?_
          clear hK K
          refine wpAnyIn_ready (rs := [0]) (by kernel_rfl) (by simp) ?_
          refine AllReadyIn.cons rfl (fun K hK => ?_) AllReadyIn.nil
          · go_simp
            refine hK _ _ ?_
            clear hK K
            refine wpAnyIn_ready (rs := [4]) (by kernel_rfl) (by simp) ?_
            refine AllReadyIn.cons rfl (fun K hK => ?_) AllReadyIn.nil
            · refine stepIn_append_run rfl _ _ 38 rfl _ _ (by simp [Act.eval, Act.put]) (by simp [Act.eval, Act.put]) hrun ?_
              refine hK _ _ ?_
              clear hK K
              refine wpAnyIn_ready (rs := [5]) (by kernel_rfl) (by simp) ?_
              refine AllReadyIn.cons rfl (fun K hK => ?_) AllReadyIn.nil
              · go_simp
                refine hK _ _ ?_
                clear hK K
                refine wpAnyIn_done (by kernel_rfl) ?_ _
                gi_wp2
                exact hpost.out
  case done =>
    rintro D ys W hD hS ⟨⟨v, hv, hrow, -⟩, hB1⟩ hK
    rw [came_all hS] at hrow
    have hn : ys.length = l.length := hS.length
    rw [hn] at hrow
    have hc := hv.cell
    clear bO bC hl hf hS
    gi_wp2
    refine ⟨by simp, .inl ⟨_, _, rfl, run_takeDeferred hK, ?_⟩⟩
    exact ⟨_, results_tmp rfl _ _ _, v, rfl, ownsRow_putObj hrow _ hK rfl, hB1.trans (belowK_b (w := w) (Nat.le_refl _) W D _ _ (by omega) hK rfl rfl)⟩
  case stop =>
    rintro D c pre W _ _ h _
    exact h.elim
end Go.Proofs.YtpncnkihfijmaaaGreatDoor
namespace Go.Proofs.YtpncnkihfijmaaaGreatDoor
open Go.ChangeShapes Go.WideShapes Go.ChangeAt Go.RowKit Go.ChangeMaps
set_option maxRecDepth 10000
set_option linter.unusedSimpArgs false
set_option linter.unusedVariables false

theorem insert_any (l : List HD) (x : HD) (v : Value) (base vb i : Nat) (hi : i ≤ l.length) (W : World) (hown : W.ownsRow base 49 3 v l.length (holdsC l)) (hv : Block W vb 49 #[.string x.f, .int .i64 x.r, .int .i64 x.c]) (hne : ∀ g, v.ownBlock = some g → vb ≠ g) (hbase : base ≤ W.heap.size) (hm : l.length ≤ 1099511626) :
    Calls Tryz.prog 77 #[v, .int .i64 (i : Int), .slice (some ⟨vb, 0, none⟩) 1 1] W fun e w' => ∃ v', e = .returned v' ∧ w'.ownsRow base 49 3 v' (l.length + 1) (holdsC (l.take i ++ ([x] ++ l.drop i))) ∧ Below base W w' := by
  by_cases h : i = l.length
  · subst h
    have := insert_end l x v base vb W hown hv hbase hm
    simpa using this
  · obtain ⟨h1, ⟨rfl, h0⟩ | ⟨g, cap, cur, rfl, hbg, hg, hnc, hcm, hcs, htk⟩⟩ := hown
    · omega
    · by_cases hr : l.length + 1 ≤ cap
      · exact insert_room l x g cap base vb i cur W (by omega) hbg hg hcs htk hr hcm hv (hne g rfl) hbase
      · exact insert_grow l x g cap base vb i cur W (by omega) hg hcs htk hnc (by omega) hm hv hbase

set_option maxHeartbeats 2000000 in
theorem iHoldPut_any (l : List HD) (x : HD) (A : Option Addr) (cap : Nat) (w : World) (hl : Lies w w.heap.size 3 A l.length (holdsC l)) (hm : l.length ≤ 1099511626) (hf : ∀ y ∈ l, y.f.size ≤ 1099511627776) (hxf : x.f.size ≤ 1099511627776) :
    Calls Tryz.prog 23 #[.slice A l.length cap, holdV x.f x.r x.c] w (HoldsMade (putL l x) w) := by
  by_cases h400 : 400 < l.length
  · have HP := Lib.hid (putL_big (x := x) h400)
    clear hl
    go_enter Tryz.func23, Tryz.ntmps23
    go_wp2
    go_ret
    rw [HP.out]
    exact ⟨none, 0, by simp, World.ownsRow_nil _ _ _ _, by go_grown⟩
  · have hB1 : Below w.heap.size w (boxW w x) := (Below.refl _ w).alloc (Nat.le_refl _) _
    have HPl : Hid (∀ W : World, Below w.heap.size w W → Calls Tryz.prog 75 #[.slice A l.length cap, holdV x.f x.r x.c] W fun e w' => ∃ p : Nat, e = .returned (.tuple #[.int .i64 (p : Int), .bool (decide (x ∈ l))]) ∧ (x ∉ l → p = placeL l x) ∧ p ≤ l.length ∧ Below W.heap.size W w') := fun W hW => holdPlace_any l x A cap W (hl.on hW) (by omega)
    have HCp : Hid (∀ W : World, Below w.heap.size w W → Calls Tryz.prog 76 #[.slice A l.length cap] W fun e w' => ∃ v, e = .returned v ∧ w'.ownsRow W.heap.size 49 3 v l.length (holdsC l) ∧ Below W.heap.size W w') := fun W hW => holdsCopy_any l A cap W (hl.on hW) hm hf
    have HCo : Hid (∀ W : World, Calls Tryz.prog 78 #[holdV x.f x.r x.c] W fun e w' => e = .returned (holdV x.f x.r x.c) ∧ Below W.heap.size W w') := fun W => holdCopy_any x W hxf
    have HIn : Hid (∀ (v : Value) (W : World) (p : Nat), p ≤ l.length → W.ownsRow w.heap.size 49 3 v l.length (holdsC l) → w.heap.size ≤ W.heap.size → Calls Tryz.prog 77 #[v, .int .i64 (p : Int), .slice (some ⟨W.heap.size, 0, none⟩) 1 1] (W.alloc (.cells #[.string x.f, .int .i64 x.r, .int .i64 x.c] 49)) fun e w' => ∃ v', e = .returned v' ∧ w'.ownsRow w.heap.size 49 3 v' (l.length + 1) (holdsC (l.take p ++ ([x] ++ l.drop p))) ∧ Below w.heap.size W w') := fun v W p hp ho hz =>
      (insert_any l x v w.heap.size W.heap.size p hp _ (ho.alloc _) (Block.new W _ _) (fun g hg => by have := (ho.lt g hg).2; omega) (by simp; omega) hm).mono fun e w' ⟨v', h1, h2, h3⟩ => ⟨v', h1, h2, ((Below.refl _ W).alloc hz _).trans h3⟩
    have HP1 : Hid (x ∈ l → putL l x = l) := putL_there h400
    have HP2 : Hid (x ∉ l → putL l x = l.take (placeL l x) ++ ([x] ++ l.drop (placeL l x))) := putL_new h400
    have HLen : Hid (x ∉ l → (putL l x).length = l.length + 1) := putL_len h400
    obtain ⟨xf, xr, xc⟩ := x
    have x0 : (boxW w ⟨xf, xr, xc⟩).cell? ⟨w.heap.size, 0, none⟩ = some (.string xf) := cell_of_row _ _ _ _ _ (0, 0) (heap_alloc_new w _)
    have x1 : (boxW w ⟨xf, xr, xc⟩).cell? ⟨w.heap.size, 1, none⟩ = some (.int .i64 xr) := cell_of_row _ _ _ _ _ (0, 0) (heap_alloc_new w _)
    have x2 : (boxW w ⟨xf, xr, xc⟩).cell? ⟨w.heap.size, 2, none⟩ = some (.int .i64 xc) := cell_of_row _ _ _ _ _ (0, 0) (heap_alloc_new w _)
    have hbz : (boxW w ⟨xf, xr, xc⟩).heap.size = w.heap.size + 1 := by simp
    dsimp only at *
    clear hl hf
    by_cases hx : (⟨xf, xr, xc⟩ : HD) ∈ l
    · rw [decide_eq_true hx] at HPl
      have HP := Lib.hid (HP1.out hx)
      clear hx HP1 HP2 HLen HIn HCo
      go_enter Tryz.func23, Tryz.ntmps23
      go_wp2_with fail
      refine (HPl.out _ hB1).mono ?_
      rintro e w1 ⟨p, rfl, -, hp, hb1⟩
      have hB2 := hB1.trans (hb1.mono (by omega))
      clear hb1
      go_wp2_with fail
      refine (HCp.out _ hB2).mono ?_
      rintro e w2 ⟨v, rfl, hown, hb2⟩
      have HO := Lib.hid hown
      have hB3 := hB2.trans (hb2.mono hB2.size)
      clear hown hb2
      go_wp2_with fail
      go_ret
      rw [HP.out]
      exact made_of_own (by simp) (ownsRow_base HO.out hB2.size) rfl rfl hB3
    · rw [decide_eq_false hx] at HPl
      have HP := Lib.hid (HP2.out hx)
      have HL := Lib.hid (HLen.out hx)
      have HX := Lib.hid hx
      clear hx HP1 HP2 HLen
      go_enter Tryz.func23, Tryz.ntmps23
      go_wp2_with fail
      refine (HPl.out _ hB1).mono ?_
      rintro e w1 ⟨p, rfl, hp, hpl, hb1⟩
      have HQ := Lib.hid (hp HX.out)
      have hB2 := hB1.trans (hb1.mono (by omega))
      have d0 := kc hb1 x0 (by omega)
      have d1 := kc hb1 x1 (by omega)
      have d2 := kc hb1 x2 (by omega)
      have hz1 : w.heap.size + 1 ≤ w1.heap.size := by have := hb1.size; omega
      clear hb1 hp
      go_wp2_with fail
      refine (HCp.out _ hB2).mono ?_
      rintro e w2 ⟨v, rfl, hown, hb2⟩
      have HO := Lib.hid (ownsRow_base hown hB2.size)
      have hB3 := hB2.trans (hb2.mono hB2.size)
      have c0 := kc hb2 d0 (by omega)
      have c1 := kc hb2 d1 (by omega)
      have c2 := kc hb2 d2 (by omega)
      clear hown hb2 d0 d1 d2
      go_wp2_with fail
      refine (HCo.out _).mono ?_
      rintro e w3 ⟨rfl, hb3⟩
      have HO3 := Lib.hid (ownsRow_below HO.out hb3)
      have hB4 := hB3.trans (hb3.mono hB3.size)
      clear hb3 c0 c1 c2
      go_wp2_with fail
      refine (HIn.out _ _ _ hpl HO3.out hB4.size).mono ?_
      rintro e w4 ⟨v', rfl, hown4, hb4⟩
      have HO4 := Lib.hid hown4
      have hB5 := hB4.trans hb4
      clear hown4 hb4
      go_wp2_with fail
      go_ret
      exact made_of_own (by simp) HO4.out HL.out.symm (by rw [HP.out, HQ.out]) hB5
end Go.Proofs.YtpncnkihfijmaaaGreatDoor
