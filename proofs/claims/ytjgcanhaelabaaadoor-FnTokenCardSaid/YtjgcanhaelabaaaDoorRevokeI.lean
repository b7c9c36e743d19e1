/-
  impl.Revoke: the walk.
-/
import Derived.Test.YtjgcanhaelabaaaDoorInOrder
namespace Go.Proofs.YtjgcanhaelabaaaDoor
open Go.ChangeShapes Go.WideShapes Go.ChangeAt Go.RowKit Go.ChangeMaps Go.Maps
set_option maxRecDepth 10000
set_option linter.unusedSimpArgs false
set_option linter.unusedVariables false

set_option maxHeartbeats 4000000 in
theorem iRevoke_any (l : List TK) (A : Option Addr) (cap : Nat) (no : Int) (w : World) (hl : Lies w w.heap.size 4 A l.length (toksC l)) (hm : l.length ≤ 1099511626) (hw : (Lit.int .i64 no).wf = true) :
    Calls Tryd.prog 11 #[.slice A l.length cap, .int .i64 no] w (ToksMade (revokeT l no) w) := by
  by_cases h400 : 400 < l.length
  · have HR := Lib.hid (revoke_big (no := no) h400)
    clear hl hw
    go_enter Tryd.func11, Tryd.ntmps11
    go_wp2
    refine bodyPost_ret (v := outV none 0 0 0 2) (by simp [results, Tryd.results11, go_sem]) rfl ?_
    exact toksMade_err HR.out rfl (by go_grown)
  have h400' : ¬ (400 : Int) < (l.length : Int) := by omega
  have HO : Hid (∀ W : World, Below w.heap.size w W → Calls Tryd.prog 19 #[.slice A l.length cap] W fun e w' => e = .returned (.bool (toksOkB l)) ∧ Below W.heap.size W w') := fun W hW => iTokensRight_any l A cap W (hl.on hW) (by omega)
  cases ho : toksOkB l
  · rw [ho] at HO
    have HR := Lib.hid (revoke_form (no := no) h400 ho)
    clear hl ho hw
    go_enter Tryd.func11, Tryd.ntmps11
    go_wp2_with fail
    refine (HO.out _ (by go_grown)).mono ?_
    rintro e w1 ⟨rfl, hb1⟩
    have X1 := (Block.new w #[.slice none 0 0, .int .i64 0, .int .i64 0] 28).on hb1
    have hB : Below w.heap.size w w1 := ((Below.refl _ w).alloc (Nat.le_refl _) _).trans (hb1.mono (by simp))
    have q1 := X1.cell
    have f1 := X1.free
    have hlt := X1.lt
    clear hb1
    go_wp2_with fail
    refine bodyPost_ret (v := outV none 0 0 0 1) (by simp [results, Tryd.results11, go_sem, q1, f1, hlt, Nat.ne_of_lt hlt]) rfl ?_
    exact toksMade_err HR.out rfl (below_out hB (Nat.le_refl _) _ _ _)
  rw [ho] at HO
  have hlen := toks_len ho
  have HKEY := Lib.hid (keyOf_no hw)
  have HBN : Hid (∀ W : World, Below w.heap.size w W → Calls Tryd.prog 35 #[.slice A l.length cap] W fun e w' => e = .returned (.map (some W.heap.size)) ∧ w'.ownsMap Tryd.prog 2 tokRd W.heap.size l.length (mapD l) ∧ Below W.heap.size W w') := fun W hW => tokensByNo_any l A cap W (hl.on hW) ho
  have hKp : (keepNo l no).Pairwise (fun a b => a.n < b.n) := (toks_pair ho).sublist (List.filter_sublist)
  have hKn : ∀ x ∈ keepNo l no, 1 ≤ x.n ∧ x.n ≤ 999 := fun x hx => by
    obtain ⟨i, hi, rfl⟩ := List.getElem_of_mem (List.mem_filter.1 hx).1
    exact (toks_at ho (List.getElem?_eq_getElem hi)).1
  have hKl := keepNo_le l no
  have HIO : Hid (∀ (W : World) (b nn : Nat), W.ownsMap Tryd.prog 2 tokRd b nn (mapD (keepNo l no)) → Calls Tryd.prog 36 #[.map (some b)] W fun e w' => (∃ (A : Option Addr) (c : Nat), e = .returned (.slice A (keepNo l no).length c) ∧ w'.ownsRow W.heap.size 39 4 (.slice A (keepNo l no).length c) (keepNo l no).length (toksC (keepNo l no))) ∧ Below W.heap.size W w') :=
    fun W b nn h => inOrder_any (keepNo l no) b nn W h hKp hKn (by omega)
  have HR1 : Hid ((keepNo l no).length = l.length → revokeT l no = ([], 0, 6)) := fun h => revoke_none h400 ho h
  have HR2 : Hid (¬ (keepNo l no).length = l.length → revokeT l no = (keepNo l no, 0, 0)) := fun h => revoke_one h400 ho h
  have HLK : Hid (∀ (W : World) (b n : Nat), W.ownsMap Tryd.prog 2 tokRd b n (mapD l) → (Instr.lookup 66 (.map (some b)) (.int .i64 no) true).run Tryd.prog W = .ok (.tuple #[tkV (findNo l no), .bool (Maps.has (mapD l) (.int .i64 no))]) W) := fun W b n h => by
    obtain ⟨v, ps, hrun, hv⟩ := h.look_ok tokLaw Tryd.underlying66 (zeroTok W) (tokRd_mk tk0) (keyOf_no hw)
    rw [mapD_at] at hv
    rw [tokRd_inv hv] at hrun
    exact hrun
  have HDL := Lib.hid (mapD_del l no)
  have HH : Hid (Maps.has (mapD l) (.int .i64 no) = false ↔ (keepNo l no).length = l.length) := has_keep
  clear hl ho hw hKp hKn
  generalize findNo l no = X at *
  generalize keepNo l no = K at *
  obtain ⟨xn, xh, xr, xt⟩ := X
  dsimp only [tkV] at *
  by_cases he : K.length = l.length
  · have HR := Lib.hid (HR1.out he)
    rw [HH.out.2 he] at HLK
    clear HH HR1 HR2 he
    go_enter Tryd.func11, Tryd.ntmps11
    go_wp2_with fail
    refine (HO.out _ (by go_grown)).mono ?_
    rintro e w1 ⟨rfl, hb1⟩
    have X1 := (Block.new w #[.slice none 0 0, .int .i64 0, .int .i64 0] 28).on hb1
    have hB : Below w.heap.size w w1 := ((Below.refl _ w).alloc (Nat.le_refl _) _).trans (hb1.mono (by simp))
    clear hb1
    go_wp2_with fail
    refine (HBN.out _ hB).mono ?_
    rintro e w2 ⟨rfl, hown2, hb2⟩
    have hlk := HLK.out w2 _ _ hown2
    have X2 := X1.on hb2
    have hB2 := hB.trans (hb2.mono hB.size)
    have q2 := X2.cell
    have f2 := X2.free
    have hlt := X2.lt
    clear hb2 hB X1 hown2
    go_wp2_with fail
    refine bodyPost_ret (v := outV none 0 0 0 6) (by simp [results, Tryd.results11, go_sem, q2, f2, hlt, Nat.ne_of_lt hlt]) rfl ?_
    exact toksMade_err HR.out rfl (by have hz := hB2.size; go_grown)
  · have HR := Lib.hid (HR2.out he)
    have hht : Maps.has (mapD l) (.int .i64 no) = true := by
      cases h : Maps.has (mapD l) (.int .i64 no)
      · exact absurd (HH.out.1 h) he
      · rfl
    rw [hht] at HLK
    clear HH HR1 HR2 he hht
    go_enter Tryd.func11, Tryd.ntmps11
    go_wp2_with fail
    refine (HO.out _ (by go_grown)).mono ?_
    rintro e w1 ⟨rfl, hb1⟩
    have X1 := (Block.new w #[.slice none 0 0, .int .i64 0, .int .i64 0] 28).on hb1
    have hB : Below w.heap.size w w1 := ((Below.refl _ w).alloc (Nat.le_refl _) _).trans (hb1.mono (by simp))
    have hz1 : w.heap.size < w1.heap.size := X1.lt
    clear hb1
    go_wp2_with fail
    refine (HBN.out _ hB).mono ?_
    rintro e w2 ⟨rfl, hown2, hb2⟩
    have hlk := HLK.out w2 _ _ hown2
    have X2 := (X1.on hb2).alloc (.cells #[.int .i64 xn, .int .i64 xh, .int .i64 xr, .int .i64 xt] 39)
    have hB2 := hB.trans (hb2.mono hB.size)
    have hB2a := hB2.alloc hB2.size (.cells #[.int .i64 xn, .int .i64 xh, .int .i64 xr, .int .i64 xt] 39)
    have hO2 := Lib.hid (hown2.alloc (.cells #[.int .i64 xn, .int .i64 xh, .int .i64 xr, .int .i64 xt] 39))
    clear hb2 hB X1 hown2 hB2
    go_wp2_with (refine wpList_delete_own _ rfl _ _ 66 2 rfl 39 tokLaw Tryd.underlying66 tokRd w1.heap.size l.length (mapD l) rfl hO2.out _ _ rfl HKEY.out ?_; intro w3 hown3 ht3; rw [HDL.out] at hown3; clear hlk)
    refine (HIO.out _ _ _ hown3).mono ?_
    rintro e w4 ⟨⟨A4, c4, rfl, r4⟩, hb4⟩
    have hz3 : w.heap.size + 1 ≤ w3.heap.size := (X2.kept ht3.grown (fun e => by have := Option.some.inj e; omega)).lt
    have X4 := (X2.kept ht3.grown (fun e => by have := Option.some.inj e; omega)).on hb4
    have hB3 := hB2a.grown ht3.grown hB2a.size (fun k e => by have := Option.some.inj e; omega)
    have hB4 := hB3.trans (hb4.mono hB3.size)
    have r4a := ownsRow_base r4 hz3
    have q4 := X4.cell
    have f4 := X4.free
    have hlt := X4.lt
    clear X2 hB2a hO2 hown3 ht3 hb4 r4
    go_wp2_with fail
    refine bodyPost_ret (v := outV A4 K.length c4 0 0) (by simp [results, Tryd.results11, go_sem, q4, f4, hlt, Nat.ne_of_lt hlt]) rfl ?_
    exact toksMade_row HR.out (row_out r4a (Nat.lt_succ_self _) _ _ _) rfl rfl rfl (below_out hB4 (Nat.le_refl _) _ _ _)
end Go.Proofs.YtjgcanhaelabaaaDoor
