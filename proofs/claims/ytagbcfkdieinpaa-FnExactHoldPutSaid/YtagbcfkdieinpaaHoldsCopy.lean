/-
  impl.holdsCopy: the walk.
-/
import Derived.Test.YtagbcfkdieinpaaEachHold
import Derived.Test.YtagbcfkdieinpaaBlocks
import Derived.Test.YtagbcfkdieinpaaHoldCopy
import Derived.Test.YtagbcfkdieinpaaAppendLies
namespace Go.Proofs.Ytagbcfkdieinpaa
open Go.ChangeShapes Go.WideShapes Go.ChangeAt Go.RowKit Go.ChangeMaps
set_option linter.unusedSimpArgs false
set_option linter.unusedVariables false
attribute [local go_sem] Oper.semAt_some

/-- append as one step of a region that draws, inside a fence, its run known by an equation. -/
theorem stepIn_append_run {F : Fence} {n : Nat} {P : Program} {ops : Array Oper} {o : Oper} {a : Act} {w : World} {K : Act → World → Prop} {Q : Exit → Act → World → Prop} {E : Prop}
    (hg : o.guard = none) (s x : Operand) (t : TypeId) (hop : o.op = Op.call { callee := Callee.builtin Builtin.append, args := #[s, x], argTypes := #[t, t] })
    (v u : Value) (hs : a.eval s = v) (hx : a.eval x = u) {v' : Value} {w' : World} (hr : (Builtin.append_ #[t, t] o.type #[v, u]).run P w = .ok v' w') (hK : K (a.put o.dst v') w') :
    if Region.wanted o (yielded ops a.tmps) = true then Oper.wpIn F n P o a w K Q else E := by
  have hw : Region.wanted o (yielded ops a.tmps) = true := by simp [Region.wanted, hg]
  rw [if_pos hw]
  unfold Oper.wpIn
  refine ⟨?_, ?_⟩
  · simp [Oper.about, hop, resolve, Target.leads, Sem.run_pure]
  · rw [Oper.semAt_plain F _ _ (by rw [hop]; intro c hc'; cases hc')]
    simp [execOp, hop, resolve, invoke, builtin, hs, hx, hr, Result.andThen]
    exact hK

/-- What has come. -/
def came (l : List HD) (pre : List (Fin l.length)) : List HD := pre.map fun y => hAt l y.1
theorem came_all {l : List HD} {ys : List (Fin l.length)} (h : FirstK l.length ys) : came l ys = l := by
  have e : came l ys = (ys.map (·.1)).map (hAt l) := by simp [came]
  rw [e, h]
  refine List.ext_getElem (by simp) fun i h1 h2 => ?_
  have := at_hAt (l := l) (j := i) (by simpa using h2)
  rw [List.getElem?_eq_getElem (by simpa using h2)] at this
  simpa using (Option.some.inj this).symm
theorem came_snoc (l : List HD) (pre : List (Fin l.length)) (x : Fin l.length) : holdsC (came l (pre ++ [x])) = holdsC (came l pre) ++ holdC (hAt l x.1) := by
  rw [came, List.map_append, holdsC_append]
  simp [came, holdsC]

def CopyI (l : List HD) (w : World) (pre : List (Fin l.length)) (W : World) : Prop :=
  (∃ v, Boxed W w.heap.size 35 v ∧ W.ownsRow w.heap.size 30 3 v pre.length (holdsC (came l pre)) ∧ True) ∧ Below w.heap.size w W
def CopyAx (l : List HD) (A : Option Addr) (cap : Nat) (w : World) (x : Fin l.length) (a' : Act) (W : World) : Prop :=
  ∃ Bx, w.heap.size < Bx ∧ Block W Bx 30 #[.string (hAt l x.1).f, .int .i64 (hAt l x.1).r, .int .i64 (hAt l x.1).c] ∧ a' = { tmps := #[.slice A l.length cap, undef, .slice none 0 0, .pointer (some ⟨w.heap.size, 0, none⟩), undef, .pointer (some ⟨Bx, 0, none⟩), .slice A l.length cap, .func (.func 52) #[] #[.pointer (some ⟨w.heap.size + 1, 0, none⟩)], .int .i64 (x.1 : Int), holdV (hAt l x.1).f (hAt l x.1).r (hAt l x.1).c, undef, undef, undef, undef, undef, undef], defers := [] }

set_option maxRecDepth 100000 in
set_option maxHeartbeats 2000000 in
theorem holdsCopy_any (l : List HD) (A : Option Addr) (cap : Nat) (w : World) (hl : Lies w w.heap.size 3 A l.length (holdsC l)) (hm : l.length ≤ 1099511626) (hf : ∀ x ∈ l, x.f.size ≤ 1099511627776) :
    Calls Try.prog 27 #[.slice A l.length cap] w fun e w' => ∃ v, e = .returned v ∧ w'.ownsRow w.heap.size 30 3 v l.length (holdsC l) ∧ Below w.heap.size w w' := by
  refine (callsIn_wide (n := 6)).1 ?_
  refine callsIn_of_wp_marks Try.func27 rfl trivial ?_ rfl
  simp only [Try.ntmps27, List.size_toArray, List.length_cons, List.length_nil, Nat.reduceAdd, Nat.reduceSub, Array.replicate_succ, Array.replicate_zero, List.push_toArray, List.append_toArray, List.nil_append, List.cons_append]
  have hfe : Fence.wide.fn 44 := trivial
  gi_wp2_with (gi_at_call 44; refine (each_in Fence.wide 5 hfe rfl _ _ _ _).mono ?_; rintro e w' ⟨rfl, rfl⟩)
  have bO := (Boxed.new w 35 (.slice none 0 0)).alloc (.cells #[.slice A l.length cap] 35)
  have bC := Block.new (w.alloc (.cells #[.slice none 0 0] 35)) #[.slice A l.length cap] 35
  simp only [World.size_alloc] at bC
  have hB0 : Below w.heap.size w ((w.alloc (.cells #[.slice none 0 0] 35)).alloc (.cells #[.slice A l.length cap] 35)) := ((Below.refl _ w).alloc (Nat.le_refl _) _).alloc (by simp) _
  have hsz : ((w.alloc (.cells #[.slice none 0 0] 35)).alloc (.cells #[.slice A l.length cap] 35)).heap.size = w.heap.size + 2 := by simp
  obtain ⟨W0, hW0⟩ : ∃ W0, (w.alloc (.cells #[.slice none 0 0] 35)).alloc (.cells #[.slice A l.length cap] 35) = W0 := ⟨_, rfl⟩
  rw [hW0] at bO bC hB0 hsz ⊢
  clear hW0
  refine wpIn_rangeFunc_ownH rfl (by omega) (gf := 52) (lb := #[.pointer (some ⟨w.heap.size + 1, 0, none⟩)]) rfl trivial (enters_of Try.func52 (by kernel_rfl) rfl)
    (each_stops Fence.wide 5 trivial rfl (by omega) (w.heap.size + 1) w.heap.size cap A l (by omega) W0 (by omega) (by omega) (bC.cell 0) (hl.below hB0)) belowK_t (belowK_b (by omega)) (Below.refl _ _) (fun _ => rfl)
    (CopyI l w) (fun _ _ _ => False)
    (OwnFrom.and (Own.from (holdsRow_own w.heap.size w.heap.size 35 30 3 (fun pre => pre.length) (fun pre => holdsC (came l pre)) (fun _ _ => True)) _) (ownFrom_below (Nat.le_refl _) (by omega)))
    (fun c => fun _ _ _ _ h => h.elim)
    ⟨⟨_, bO, World.ownsRow_nil _ _ _ _, trivial⟩, hB0⟩
    (CopyAx l A cap w)
    (fun x a' _ X Y row hs hg hr => by obtain ⟨Bx, h1, h2, h3⟩ := hs; exact ⟨Bx, h1, (block_own (β := Unit) Bx _ (fun _ => _)) () X Y row h2 hg (fun r e => (hr r e).2), h3⟩)
    ?assign ?body ?done ?stop
  case assign =>
    rintro lp pre x W K ⟨⟨v, hv, hrow, -⟩, hB1⟩ hK
    dsimp only [encP]
    gi_wp2
    exact hK _ _ ((KeepsOthers.alloc _ _).from _) ((Below.refl _ W).alloc hB1.size _) ⟨⟨v, hv.alloc _, hrow.alloc _, trivial⟩, hB1.alloc hB1.size _⟩ ⟨W.heap.size, hv.lt, Block.new W _ _, rfl⟩
  case body =>
    rintro lp pre x a' W hlp ⟨r, hr⟩ ⟨⟨v, hv, hrow, -⟩, hB1⟩ ⟨Bx, hBx, bX, rfl⟩ hlt
    have hx := at_hAt x.2
    have hxs := hf _ (List.mem_of_getElem? hx)
    have HS := Lib.hid (came_snoc l pre x)
    have HC : Hid (∀ W : World, Calls Try.prog 29 #[holdV (hAt l x.1).f (hAt l x.1).r (hAt l x.1).c] W fun e w' => e = .returned (holdV (hAt l x.1).f (hAt l x.1).r (hAt l x.1).c) ∧ Below W.heap.size W w') := fun W => holdCopy_any _ W hxs
    have hlen : pre.length + 1 ≤ 1099511627 := by omega
    have HN : Hid ((pre ++ [x]).length = pre.length + 1) := by simp [Hid]
    obtain ⟨i, hi⟩ := x
    dsimp only at *
    generalize hAt l i = X at *
    have HP : Hid (∀ w1, Below W.drew.heap.size W.drew w1 → w1.cell? ⟨w.heap.size, 0, none⟩ = some v ∧ (∀ o, (w1.alloc o).cell? ⟨w.heap.size, 0, none⟩ = some v) ∧ ∃ g c w2,
        (Builtin.append_ #[35, 35] 35 #[v, .slice (some ⟨w1.heap.size, 0, none⟩) 1 1]).run Try.prog (w1.alloc (.cells #[.string X.f, .int .i64 X.r, .int .i64 X.c] 30)) = .ok (.slice (some ⟨g, 0, none⟩) (pre.length + 1) c) w2 ∧
        w2.cell? ⟨w.heap.size, 0, none⟩ = some v ∧ w2.frozen? ⟨w.heap.size, 0, none⟩ = false ∧
        Hid (KeepsFrom W0.heap.size W (w2.setCell ⟨w.heap.size, 0, none⟩ (.slice (some ⟨g, 0, none⟩) (pre.length + 1) c)) ∧ Below w.heap.size W (w2.setCell ⟨w.heap.size, 0, none⟩ (.slice (some ⟨g, 0, none⟩) (pre.length + 1) c)) ∧
          CopyI l w (pre ++ [⟨i, hi⟩]) (w2.setCell ⟨w.heap.size, 0, none⟩ (.slice (some ⟨g, 0, none⟩) (pre.length + 1) c)))) := fun w1 hb1 => by
      have hz := hB1.size
      have hz1 : W.heap.size ≤ w1.heap.size := hb1.size
      have hv1 : Boxed w1 w.heap.size 35 v := (show Boxed W.drew _ _ _ from hv).kept (row := none) (grown_of_below hb1 none) (by simp)
      have hr1 : w1.ownsRow w.heap.size 30 3 v pre.length (holdsC (came l pre)) := ownsRow_below (w := W.drew) hrow hb1
      obtain ⟨v', w2, hrun, hown2, hg2⟩ := run_append_last (P := Try.prog) (ty := 35) (e' := 30) (cs := #[.string X.f, .int .i64 X.r, .int .i64 X.c]) Try.underlying35 info_hold rfl (by decide) (by decide) hr1 rfl (fun u hu => holdsC_one [X] u (by simpa [holdsC, holdC] using hu)) hlen (by omega)
      obtain ⟨g, c, rfl⟩ := ownsRow_succ hown2
      obtain ⟨q1, q2, q3, q4, q5⟩ := Boxed.appended hv1 (by decide) hr1 (by omega) (Nat.le_refl _) hown2 hg2
      have hD : Below w.heap.size W w1 := ((Below.refl _ W).drew.trans hb1).mono hz
      refine ⟨hv1.cell, fun o => (hv1.alloc o).cell, g, c, w2, hrun, q1.cell, q1.frozen, ?_, hD.trans q5, ⟨_, q2, ?_, trivial⟩, (hB1.trans hD).trans q5⟩
      · exact (((KeepsOthers.drew _).from _).trans (keeps_of_below hb1 _)).trans (q4.from _)
      · rw [HN.out, HS.out]
        exact q3
    have c0 := hv.cell
    have z0 := hv.frozen
    have x0 := bX.cell 0
    have x1 := bX.cell 1
    have x2 := bX.cell 2
    have hmx : Try.prog.follows .mixedOrders = true := by kernel_rfl
    clear hx hl hlt bO bC hB0 hv hrow bX
    gi_wp2_with fail
    refine wpIn_region_any (by assumption) ?_
    try (change wpAnyIn _ _ _ _ _ _ _ _ _ (World.drew _))
    refine wpAnyIn_ready (rs := [0, 1]) (by kernel_rfl) (by simp) ?_
    refine AllReadyIn.cons rfl (fun K hK => ?_) (AllReadyIn.cons rfl (fun K hK => ?_) AllReadyIn.nil)
    · go_simp
      refine hK _ _ ?_
      clear hK K
      refine wpAnyIn_ready (rs := [1]) (by kernel_rfl) (by simp) ?_
      refine AllReadyIn.cons rfl (fun K hK => ?_) AllReadyIn.nil
      · go_simp
        refine hK _ _ ?_
        clear hK K
        refine wpAnyIn_ready (rs := [2]) (by kernel_rfl) (by simp) ?_
        refine AllReadyIn.cons rfl (fun K hK => ?_) AllReadyIn.nil
        · go_simp
          gi_wp2_with (refine ⟨trivial, (CallsIn.inRound lp (callsIn_wide.2 (HC.out _))).mono ?_⟩; rintro e w1 ⟨rfl, hb1⟩; obtain ⟨k0, ka, g, c, w2, hrun, k1, k2, hpost⟩ := HP.out _ hb1; clear HP)
          refine wpAnyIn_ready (rs := [3]) (by kernel_rfl) (by simp) ?_
          refine AllReadyIn.cons rfl (fun K hK => ?_) AllReadyIn.nil
          · go_simp
            refine hK _ _ ?_
            clear hK K
            refine wpAnyIn_ready (rs := [4]) (by kernel_rfl) (by simp) ?_
            refine AllReadyIn.cons rfl (fun K hK => ?_) AllReadyIn.nil
            · refine stepIn_append_run rfl _ _ 35 rfl _ _ (by simp [Act.eval, Act.put]) (by simp [Act.eval, Act.put]) hrun ?_
              refine hK _ _ ?_
              clear hK K
              refine wpAnyIn_ready (rs := [5]) (by kernel_rfl) (by simp) ?_
              refine AllReadyIn.cons rfl (fun K hK => ?_) AllReadyIn.nil
              · go_simp
                refine hK _ _ ?_
                clear hK K
                refine wpAnyIn_done (by kernel_rfl) ?_ _
                gi_wp2
                exact hpost.out
    · go_simp
      refine hK _ _ ?_
      clear hK K
      refine wpAnyIn_ready (rs := [0, 2]) (by kernel_rfl) (by simp) ?_
      refine AllReadyIn.cons rfl (fun K hK => ?_) (AllReadyIn.cons rfl (fun K hK => ?_) AllReadyIn.nil)
      · go_simp
        refine hK _ _ ?_
        clear hK K
        refine wpAnyIn_ready (rs := [2]) (by kernel_rfl) (by simp) ?_
        refine AllReadyIn.cons rfl (fun K hK => ?_) AllReadyIn.nil
        · go_simp
          gi_wp2_with (refine ⟨trivial, (CallsIn.inRound lp (callsIn_wide.2 (HC.out _))).mono ?_⟩; rintro e w1 ⟨rfl, hb1⟩; obtain ⟨k0, ka, g, c, w2, hrun, k1, k2, hpost⟩ := HP.out _ hb1; clear HP)
          refine wpAnyIn_ready (rs := [3]) (by kernel_rfl) (by simp) ?_
          refine AllReadyIn.cons rfl (fun K hK => ?_) AllReadyIn.nil
          · go_simp
            refine hK _ _ ?_
            clear hK K
            refine wpAnyIn_ready (rs := [4]) (by kernel_rfl) (by simp) ?_
            refine AllReadyIn.cons rfl (fun K hK => ?_) AllReadyIn.nil
            · refine stepIn_append_run rfl _ _ 35 rfl _ _ (by simp [Act.eval, Act.put]) (by simp [Act.eval, Act.put]) hrun ?_
              refine hK _ _ ?_
              clear hK K
              refine wpAnyIn_ready (rs := [5]) (by kernel_rfl) (by simp) ?_
              refine AllReadyIn.cons rfl (fun K hK => ?_) AllReadyIn.nil
              · go_simp
                refine hK _ _ ?_
                clear hK K
                refine wpAnyIn_done (by kernel_rfl) ?_ _
                gi_wp2
                exact hpost.out
      · go_simp
        gi_wp2_with (refine ⟨trivial, (CallsIn.inRound lp (callsIn_wide.2 (HC.out _))).mono ?_⟩; rintro e w1 ⟨rfl, hb1⟩; obtain ⟨k0, ka, g, c, w2, hrun, k1, k2, hpost⟩ := HP.out _ hb1; clear HP)
        refine wpAnyIn_ready (rs := [0, 3]) (by kernel_rfl) (by simp) ?_
        refine AllReadyIn.cons rfl (fun K hK => ?_) (AllReadyIn.cons rfl (fun K hK => ?_) AllReadyIn.nil)
        · go_simp
          refine hK _ _ ?_
          clear hK K
          refine wpAnyIn_ready (rs := [3]) (by kernel_rfl) (by simp) ?_
          refine AllReadyIn.cons rfl (fun K hK => ?_) AllReadyIn.nil
          · go_simp
            refine hK _ _ ?_
            clear hK K
            refine wpAnyIn_ready (rs := [4]) (by kernel_rfl) (by simp) ?_
            refine AllReadyIn.cons rfl (fun K hK => ?_) AllReadyIn.nil
            · refine stepIn_append_run rfl _ _ 35 rfl _ _ (by simp [Act.eval, Act.put]) (by simp [Act.eval, Act.put]) hrun ?_
              refine hK _ _ ?_
              clear hK K
              refine wpAnyIn_ready (rs := [5]) (by kernel_rfl) (by simp) ?_
              refine AllReadyIn.cons rfl (fun K hK => ?_) AllReadyIn.nil
              · go_simp
                refine hK _ _ ?_
                clear hK K
                refine wpAnyIn_done (by kernel_rfl) ?_ _
                gi_wp2
                exact hpost.out
        · go_simp
          refine hK _ _ ?_
          clear hK K
          refine wpAnyIn_ready (rs := [0]) (by kernel_rfl) (by simp) ?_
          refine AllReadyIn.cons rfl (fun K hK => ?_) AllReadyIn.nil
          · go_simp
            refine hK _ _ ?_
            clear hK K
            refine wpAnyIn_ready (rs := [4]) (by kernel_rfl) (by simp) ?_
            refine AllReadyIn.cons rfl (fun K hK => ?_) AllReadyIn.nil
            · refine stepIn_append_run rfl _ _ 35 rfl _ _ (by simp [Act.eval, Act.put]) (by simp [Act.eval, Act.put]) hrun ?_
              refine hK _ _ ?_
              clear hK K
              refine wpAnyIn_ready (rs := [5]) (by kernel_rfl) (by simp) ?_
              refine AllReadyIn.cons rfl (fun K hK => ?_) AllReadyIn.nil
              · go_simp
                refine hK _ _ ?_
                clear hK K
                refine wpAnyIn_done (by kernel_rfl) ?_ _
                gi_wp2
                exact hpost.out
  case done =>
    rintro D ys W hD hS ⟨⟨v, hv, hrow, -⟩, hB1⟩ hK
    rw [came_all hS] at hrow
    have hn : ys.length = l.length := hS.length
    rw [hn] at hrow
    have hc := hv.cell
    clear bO bC hl hf hS
    gi_wp2
    refine ⟨by simp, .inl ⟨_, _, rfl, run_takeDeferred hK, ?_⟩⟩
    exact ⟨_, results_tmp rfl _ _ _, v, rfl, ownsRow_putObj hrow _ hK rfl, hB1.trans (belowK_b (w := w) (Nat.le_refl _) W D _ _ (by omega) hK rfl rfl)⟩
  case stop =>
    rintro D c pre W _ _ h _
    exact h.elim
end Go.Proofs.Ytagbcfkdieinpaa
