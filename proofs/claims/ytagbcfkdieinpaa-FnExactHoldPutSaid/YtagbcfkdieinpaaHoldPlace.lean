/-
  impl.holdPlace: the walk.
-/
import Derived.Test.YtagbcfkdieinpaaEachHold
import Derived.Test.YtagbcfkdieinpaaBlocks
import Derived.Test.YtagbcfkdieinpaaPutL
import Derived.Scope
namespace Go.Proofs.Ytagbcfkdieinpaa
open Go.ChangeShapes Go.WideShapes Go.ChangeAt Go.RowKit Go.ChangeMaps
set_option linter.unusedSimpArgs false
set_option linter.unusedVariables false
attribute [local go_sem] Oper.semAt_some

/-- One look. -/
def lookN (l : List HD) (x : HD) (p i : Nat) : Nat := if p = l.length ∧ lessB (hAt l i) x = false then i else p
/-- The place as far as it is known behind those that came. -/
def placeF (l : List HD) (x : HD) (pre : List (Fin l.length)) : Nat := (pre.map (·.1)).foldl (lookN l x) l.length
theorem placeF_snoc (l : List HD) (x : HD) (pre : List (Fin l.length)) (y : Fin l.length) : placeF l x (pre ++ [y]) = lookN l x (placeF l x pre) y.1 := by
  simp [placeF, List.foldl_append]
theorem placeL_less {x y : HD} : ∀ {l : List HD} {i : Nat}, i < placeL l x → l[i]? = some y → lessB y x = true
  | [], i, _, h => by simp at h
  | z :: l, i, hi, h => by
    unfold placeL at hi
    rw [List.takeWhile_cons] at hi
    cases hz : lessB z x
    · rw [hz] at hi; simp at hi
    · rw [hz] at hi
      simp only [if_true, List.length_cons] at hi
      cases i with
      | zero => simp only [List.getElem?_cons_zero, Option.some.injEq] at h; subst h; exact hz
      | succ i => exact placeL_less (l := l) (i := i) (by unfold placeL; omega) (by simpa using h)
theorem placeL_not {x y : HD} : ∀ {l : List HD}, l[placeL l x]? = some y → lessB y x = false
  | [], h => by simp at h
  | z :: l, h => by
    cases hz : lessB z x
    · have e : placeL (z :: l) x = 0 := by simp [placeL, List.takeWhile_cons, hz]
      rw [e] at h
      simp only [List.getElem?_cons_zero, Option.some.injEq] at h
      subst h
      exact hz
    · have e : placeL (z :: l) x = placeL l x + 1 := by simp [placeL, List.takeWhile_cons, hz]
      rw [e] at h
      exact placeL_not (l := l) (by simpa using h)
theorem look_range (l : List HD) (x : HD) : ∀ k, k ≤ l.length → (List.range k).foldl (lookN l x) l.length = if placeL l x < k then placeL l x else l.length
  | 0, _ => by simp
  | k + 1, hk => by
    have hx := at_hAt (l := l) (j := k) (by omega)
    rw [List.range_succ, List.foldl_append, look_range l x k (by omega)]
    simp only [List.foldl_cons, List.foldl_nil, lookN]
    by_cases h : placeL l x < k
    · have h' : placeL l x < k + 1 := by omega
      have hn : ¬ (placeL l x = l.length ∧ lessB (hAt l k) x = false) := fun hh => by omega
      rw [if_pos h, if_pos h', if_neg hn]
    · rw [if_neg h]
      by_cases h2 : placeL l x = k
      · have h' : placeL l x < k + 1 := by omega
        have hp : l.length = l.length ∧ lessB (hAt l k) x = false := ⟨rfl, placeL_not (l := l) (by rw [h2]; exact hx)⟩
        rw [if_pos h', if_pos hp]
        exact h2.symm
      · have h' : ¬ placeL l x < k + 1 := by omega
        have hn : ¬ (l.length = l.length ∧ lessB (hAt l k) x = false) := fun hh => by
          rw [placeL_less (l := l) (i := k) (by omega) hx] at hh
          cases hh.2
        rw [if_neg h', if_neg hn]
theorem placeF_all {l : List HD} {x : HD} {ys : List (Fin l.length)} (h : FirstK l.length ys) : placeF l x ys = placeL l x := by
  have e : ys.map (·.1) = List.range l.length := h
  rw [placeF, e, look_range l x l.length (Nat.le_refl _)]
  have := placeL_le l x
  split <;> omega
theorem placeF_le (l : List HD) (x : HD) (pre : List (Fin l.length)) : placeF l x pre ≤ l.length := by
  have : ∀ (q : List (Fin l.length)) (p : Nat), p ≤ l.length → (q.map (·.1)).foldl (lookN l x) p ≤ l.length := by
    intro q
    induction q with
    | nil => intro p hp; simpa using hp
    | cons y q ih =>
      intro p hp
      simp only [List.map_cons, List.foldl_cons]
      refine ih _ ?_
      unfold lookN
      have := y.2
      split <;> omega
  exact this pre _ (Nat.le_refl _)

/-- None of those that came is x. -/
def noneIs (l : List HD) (x : HD) (pre : List (Fin l.length)) : Prop := ∀ y ∈ pre, hAt l y.1 ≠ x
theorem noneIs_all {l : List HD} {x : HD} {ys : List (Fin l.length)} (hS : FirstK l.length ys) (h : noneIs l x ys) : x ∉ l := by
  intro hx
  obtain ⟨i, hi, he⟩ := List.getElem_of_mem hx
  have h1 : i ∈ ys.map (·.1) := by rw [show ys.map (·.1) = List.range l.length from hS]; exact List.mem_range.2 hi
  obtain ⟨y, hy, rfl⟩ := List.mem_map.1 h1
  refine h y hy ?_
  rw [hAt_of (List.getElem?_eq_getElem hi)]
  exact he

def PlaceI (l : List HD) (x : HD) (A : Option Addr) (cap : Nat) (w : World) (pre : List (Fin l.length)) (W : World) : Prop :=
  (noneIs l x pre ∧ (Block W w.heap.size 35 #[.slice A l.length cap] ∧ (Block W (w.heap.size + 1) 30 #[.string x.f, .int .i64 x.r, .int .i64 x.c] ∧ (Block W (w.heap.size + 1 + 1) 3 #[.int .i64 (placeF l x pre : Int)] ∧ Block W (w.heap.size + 1 + 1 + 1) 4 #[.bool false])))) ∧ Below w.heap.size w W
def PlaceIx (l : List HD) (x : HD) (w : World) (c : Code) (pre : List (Fin l.length)) (W : World) : Prop :=
  ((c = .exit 0 ∧ x ∈ l) ∧ (Block W (w.heap.size + 1 + 1) 3 #[.int .i64 (placeF l x pre.dropLast : Int)] ∧ Block W (w.heap.size + 1 + 1 + 1) 4 #[.bool true])) ∧ Below w.heap.size w W
def PlaceAx (l : List HD) (x : HD) (A : Option Addr) (cap : Nat) (w : World) (y : Fin l.length) (a' : Act) (W : World) : Prop :=
  ∃ Bx, w.heap.size + 3 < Bx ∧ Block W Bx 30 #[.string (hAt l y.1).f, .int .i64 (hAt l y.1).r, .int .i64 (hAt l y.1).c] ∧ a' = { tmps := #[.slice A l.length cap, holdV x.f x.r x.c, .pointer (some ⟨w.heap.size, 0, none⟩), .pointer (some ⟨w.heap.size + 1, 0, none⟩), .int .i64 0, .bool false, .pointer (some ⟨w.heap.size + 1 + 1, 0, none⟩), .pointer (some ⟨w.heap.size + 1 + 1 + 1, 0, none⟩), .int .i64 (y.1 : Int), .pointer (some ⟨Bx, 0, none⟩), .slice A l.length cap, .int .i64 l.length, .slice A l.length cap, .func (.func 52) #[] #[.pointer (some ⟨w.heap.size + 1 + 1 + 1 + 1, 0, none⟩)], .int .i64 (y.1 : Int), holdV (hAt l y.1).f (hAt l y.1).r (hAt l y.1).c, undef, undef, undef, undef, undef, undef, undef, undef, undef, undef, undef, undef, undef, undef, undef, undef, undef, undef], defers := [] }

/-- A scope out of which nothing jumps, inside the wide fence; what holds behind it stays a variable. -/
theorem wpIn_scope_var {n : Nat} {P : Program} {c : Code} {Q : Exit → Act → World → Prop} {a : Act} {w : World} (h : ∀ Q2 : Exit → Act → World → Prop, (∀ a w, Q .ret a w → Q2 .ret a w) → c.wpIn Fence.wide n P Q2 a w) : (Code.scope c).wpIn Fence.wide n P Q a w :=
  wpIn_wide.2 (wp_scope_straight ((wpIn_wide (n := n)).1 (h (Exit.noGoto Q) fun _ _ h => h)))

set_option maxRecDepth 100000 in
set_option maxHeartbeats 2000000 in
theorem holdPlace_any (l : List HD) (x : HD) (A : Option Addr) (cap : Nat) (w : World) (hl : Lies w w.heap.size 3 A l.length (holdsC l)) (hm : l.length ≤ 1099511627) :
    Calls Try.prog 26 #[.slice A l.length cap, holdV x.f x.r x.c] w fun e w' => ∃ p : Nat, e = .returned (.tuple #[.int .i64 (p : Int), .bool (decide (x ∈ l))]) ∧ (x ∉ l → p = placeL l x) ∧ p ≤ l.length ∧ Below w.heap.size w w' := by
  refine (callsIn_wide (n := 6)).1 ?_
  refine callsIn_of_wp_marks Try.func26 rfl trivial ?_ rfl
  simp only [Try.ntmps26, List.size_toArray, List.length_cons, List.length_nil, Nat.reduceAdd, Nat.reduceSub, Array.replicate_succ, Array.replicate_zero, List.push_toArray, List.append_toArray, List.nil_append, List.cons_append]
  have hfe : Fence.wide.fn 44 := trivial
  gi_wp2_with fail
  refine wpIn_scope_var fun Q2 hQ2 => ?_
  gi_wp2_with fail
  refine wpIn_label ?_
  gi_wp2_with (gi_at_call 44; refine (each_in Fence.wide 5 hfe rfl _ _ _ _).mono ?_; rintro e w' ⟨rfl, rfl⟩)
  have bL := ((((Block.new w #[.slice A l.length cap] 35).alloc (.cells #[.string x.f, .int .i64 x.r, .int .i64 x.c] 30)).alloc (.cells #[.int .i64 (l.length : Int)] 3)).alloc (.cells #[.bool false] 4)).alloc (.cells #[.slice A l.length cap] 35)
  have bX := (((Block.new (w.alloc (.cells #[.slice A l.length cap] 35)) #[.string x.f, .int .i64 x.r, .int .i64 x.c] 30).alloc (.cells #[.int .i64 (l.length : Int)] 3)).alloc (.cells #[.bool false] 4)).alloc (.cells #[.slice A l.length cap] 35)
  have bP := ((Block.new ((w.alloc (.cells #[.slice A l.length cap] 35)).alloc (.cells #[.string x.f, .int .i64 x.r, .int .i64 x.c] 30)) #[.int .i64 (l.length : Int)] 3).alloc (.cells #[.bool false] 4)).alloc (.cells #[.slice A l.length cap] 35)
  have bT := (Block.new (((w.alloc (.cells #[.slice A l.length cap] 35)).alloc (.cells #[.string x.f, .int .i64 x.r, .int .i64 x.c] 30)).alloc (.cells #[.int .i64 (l.length : Int)] 3)) #[.bool false] 4).alloc (.cells #[.slice A l.length cap] 35)
  have bC := Block.new ((((w.alloc (.cells #[.slice A l.length cap] 35)).alloc (.cells #[.string x.f, .int .i64 x.r, .int .i64 x.c] 30)).alloc (.cells #[.int .i64 (l.length : Int)] 3)).alloc (.cells #[.bool false] 4)) #[.slice A l.length cap] 35
  have hB0 : Below w.heap.size w (((((w.alloc (.cells #[.slice A l.length cap] 35)).alloc (.cells #[.string x.f, .int .i64 x.r, .int .i64 x.c] 30)).alloc (.cells #[.int .i64 (l.length : Int)] 3)).alloc (.cells #[.bool false] 4)).alloc (.cells #[.slice A l.length cap] 35)) := (((((Below.refl _ w).alloc (Nat.le_refl _) _).alloc (by simp) _).alloc (by simp; omega) _).alloc (by simp; omega) _).alloc (by simp; omega) _
  simp only [World.size_alloc] at bX bP bT bC
  have hsz : (((((w.alloc (.cells #[.slice A l.length cap] 35)).alloc (.cells #[.string x.f, .int .i64 x.r, .int .i64 x.c] 30)).alloc (.cells #[.int .i64 (l.length : Int)] 3)).alloc (.cells #[.bool false] 4)).alloc (.cells #[.slice A l.length cap] 35)).heap.size = w.heap.size + 5 := by simp
  obtain ⟨W0, hW0⟩ : ∃ W0, ((((w.alloc (.cells #[.slice A l.length cap] 35)).alloc (.cells #[.string x.f, .int .i64 x.r, .int .i64 x.c] 30)).alloc (.cells #[.int .i64 (l.length : Int)] 3)).alloc (.cells #[.bool false] 4)).alloc (.cells #[.slice A l.length cap] 35) = W0 := ⟨_, rfl⟩
  rw [hW0] at bL bX bP bT bC hB0 hsz ⊢
  clear hW0
  refine wpIn_rangeFunc_ownH rfl (by omega) (gf := 52) (lb := #[.pointer (some ⟨w.heap.size + 1 + 1 + 1 + 1, 0, none⟩)]) rfl trivial (enters_of Try.func52 (by kernel_rfl) rfl)
    (each_stops Fence.wide 5 trivial rfl (by omega) (w.heap.size + 1 + 1 + 1 + 1) w.heap.size cap A l hm W0 (by omega) (by omega) (bC.cell 0) (hl.below hB0)) belowK_t (belowK_b (by omega)) (Below.refl _ _) (fun _ => rfl)
    (PlaceI l x A cap w) (PlaceIx l x w)
    (OwnFrom.and (OwnFrom.and (ownFrom_pure _ _) (OwnFrom.and (Own.from (block_own _ _ _) _) (OwnFrom.and (Own.from (block_own _ _ _) _) (OwnFrom.and (Own.from (block_own _ _ _) _) (Own.from (block_own _ _ _) _))))) (ownFrom_below (Nat.le_refl _) (by omega)))
    (fun c => OwnFrom.and (OwnFrom.and (ownFrom_pure _ _) (OwnFrom.and (Own.from (block_own _ _ _) _) (Own.from (block_own _ _ _) _))) (ownFrom_below (Nat.le_refl _) (by omega)))
    ⟨⟨(by intro y hy; cases hy), bL, bX, bP, bT⟩, hB0⟩
    (PlaceAx l x A cap w)
    (fun y a' _ X Y row hs hg hr => by obtain ⟨Bx, h1, h2, h3⟩ := hs; exact ⟨Bx, h1, (block_own (β := Unit) Bx _ (fun _ => _)) () X Y row h2 hg (fun r e => (hr r e).2), h3⟩)
    ?assign ?body ?done ?stop
  case assign =>
    rintro lp pre y W K ⟨⟨hp, bL1, bX1, bP1, bT1⟩, hB1⟩ hK
    dsimp only [encP]
    gi_wp2
    exact hK _ _ ((KeepsOthers.alloc _ _).from _) ((Below.refl _ W).alloc hB1.size _) ⟨⟨hp, bL1.alloc _, bX1.alloc _, bP1.alloc _, bT1.alloc _⟩, hB1.alloc hB1.size _⟩ ⟨W.heap.size, bT1.lt, Block.new W _ _, rfl⟩
  case body =>
    rintro lp pre y a' W hlp ⟨r, hr⟩ ⟨⟨hp, bL1, bX1, bP1, bT1⟩, hB1⟩ ⟨Bx, hBx, bY, rfl⟩ hlt
    obtain ⟨i, hi⟩ := y
    have hple := placeF_le l x pre
    have HD : Hid ((pre ++ [(⟨i, hi⟩ : Fin l.length)]).dropLast = pre) := by simp [Hid]
    have HM : Hid (hAt l i = x → x ∈ l) := fun e => e ▸ List.mem_of_getElem? (at_hAt hi)
    have hIx : Hid (∀ W' : World, hAt l i = x → Block W' (w.heap.size + 1 + 1) 3 #[.int .i64 (placeF l x pre : Int)] → Block W' (w.heap.size + 1 + 1 + 1) 4 #[.bool true] → Below w.heap.size w W' → PlaceIx l x w (.exit 0) (pre ++ [⟨i, hi⟩]) W') := fun W' h1 h2 h3 h4 => ⟨⟨⟨rfl, HM.out h1⟩, by rw [HD.out]; exact h2, h3⟩, h4⟩
    have hI : Hid (∀ W' : World, hAt l i ≠ x → Block W' w.heap.size 35 #[.slice A l.length cap] → Block W' (w.heap.size + 1) 30 #[.string x.f, .int .i64 x.r, .int .i64 x.c] → Block W' (w.heap.size + 1 + 1) 3 #[.int .i64 (lookN l x (placeF l x pre) i : Int)] → Block W' (w.heap.size + 1 + 1 + 1) 4 #[.bool false] → Below w.heap.size w W' → PlaceI l x A cap w (pre ++ [⟨i, hi⟩]) W') := fun W' h1 h2 h3 h4 h5 h6 => ⟨⟨(fun y hy => by
        rcases List.mem_append.1 hy with h | h
        · exact hp y h
        · rw [List.mem_singleton.1 h]; exact h1), h2, h3, by rw [placeF_snoc]; exact h4, h5⟩, h6⟩
    have HL : Hid (lookN l x (placeF l x pre) i = if placeF l x pre = l.length ∧ lessB (hAt l i) x = false then i else placeF l x pre) := rfl
    dsimp only at *
    clear hp HM HD hlt bL bX bP bT bC hB0
    generalize placeF l x pre = p at *
    generalize hAt l i = Y at *
    obtain ⟨xf, xr, xc⟩ := x
    obtain ⟨yf, yr, yc⟩ := Y
    dsimp only at *
    have cL := bL1.cell 0
    have x0 := bX1.cell 0
    have x1 := bX1.cell 1
    have x2 := bX1.cell 2
    have cP := bP1.cell 0
    have fP := bP1.free 0
    have cT := bT1.cell 0
    have fT := bT1.free 0
    have y0 := bY.cell 0
    have y1 := bY.cell 1
    have y2 := bY.cell 2
    have hB1d := hB1.size
    by_cases hxy : (⟨yf, yr, yc⟩ : HD) = ⟨xf, xr, xc⟩
    · have hx' := hxy
      injection hxy with e1 e2 e3
      subst e1 e2 e3
      clear HL hI hx'
      gi_wp2_with fail
      exact ⟨(KeepsOthers.setCell _ _ _).from _, hIx.out _ (by trivial) (bP1.far (by simp) _) (bT1.set_ 0 _) (hB1.setCell (p := ⟨w.heap.size + 1 + 1 + 1, 0, none⟩) (by simp; omega) _)⟩
    · have HNE := Lib.hid hxy
      have hq := ne_parts hxy
      dsimp only at hq
      clear hxy hIx
      rcases hq with hq | ⟨rfl, hq⟩ | ⟨rfl, rfl, hq⟩
      · have hne := str_ne hq
        clear hq
        by_cases hpl : p = l.length
        · have hpi : ((p : Int) == (l.length : Int)) = true := by rw [hpl]; exact beq_self_eq_true _
          have HC : Hid (∀ W : World, Calls Try.prog 10 #[holdV yf yr yc, holdV xf xr xc] W fun e w' => e = .returned (.bool (lessB ⟨yf, yr, yc⟩ ⟨xf, xr, xc⟩)) ∧ Below W.heap.size W w') := fun W => iHoldLess_any ⟨yf, yr, yc⟩ ⟨xf, xr, xc⟩ W
          have HQ : Hid (lookN l ⟨xf, xr, xc⟩ p i = if lessB ⟨yf, yr, yc⟩ ⟨xf, xr, xc⟩ = false then i else p) := by
            rw [Hid, HL.out]
            simp [hpl]
          clear HL
          subst hpl
          generalize lessB ⟨yf, yr, yc⟩ ⟨xf, xr, xc⟩ = bl at *
          cases bl
          · gi_wp2_with fail
            refine ⟨trivial, (CallsIn.inRound lp (callsIn_wide.2 (HC.out _))).mono ?_⟩
            rintro e w1 ⟨rfl, hb1⟩
            have hB2 := hB1.trans (hb1.mono hB1.size)
            have hKp := hb1.mono hB1.size
            have hKf := keeps_of_below hb1 W0.heap.size
            have bL2 := bL1.on hb1
            have bX2 := bX1.on hb1
            have bP2 := bP1.on hb1
            have bT2 := bT1.on hb1
            have kP := bP2.cell 0
            have kF := bP2.free 0
            clear hb1
            gi_wp2_with fail
            exact ⟨hKf.trans ((KeepsOthers.setCell _ _ _).from _), hKp.setCell (p := ⟨w.heap.size + 1 + 1, 0, none⟩) (by simp; omega) _, hI.out _ HNE.out (bL2.far (by simp; omega) _) (bX2.far (by simp) _) (by rw [HQ.out]; exact bP2.set_ 0 _) (bT2.far (by simp) _) (hB2.setCell (p := ⟨w.heap.size + 1 + 1, 0, none⟩) (by simp; omega) _)⟩
          · gi_wp2_with fail
            refine ⟨trivial, (CallsIn.inRound lp (callsIn_wide.2 (HC.out _))).mono ?_⟩
            rintro e w1 ⟨rfl, hb1⟩
            have hB2 := hB1.trans (hb1.mono hB1.size)
            have hKp := hb1.mono hB1.size
            have hKf := keeps_of_below hb1 W0.heap.size
            have bL2 := bL1.on hb1
            have bX2 := bX1.on hb1
            have bP2 := bP1.on hb1
            have bT2 := bT1.on hb1
            clear hb1
            gi_wp2_with fail
            exact ⟨hKf, hKp, hI.out _ HNE.out bL2 bX2 (by rw [HQ.out]; exact bP2) bT2 hB2⟩
        · have hpi : ((p : Int) == (l.length : Int)) = false := beq_eq_false_iff_ne.2 (by omega)
          have hpj : ¬ ((p : Int) = (l.length : Int)) := by omega
          have HQ : Hid (lookN l ⟨xf, xr, xc⟩ p i = p) := by
            rw [Hid, HL.out, if_neg]
            rintro ⟨h1, -⟩
            exact hpl h1
          clear HL hpl
          gi_wp2_with fail
          refine ⟨trivial, ?_⟩
          gi_wp2_with fail
          exact ⟨KeepsFrom.refl _ _, Below.refl _ _, hI.out _ HNE.out bL1 bX1 (by rw [HQ.out]; exact bP1) bT1 hB1⟩
      · have hne : (yr == xr) = false := beq_eq_false_iff_ne.2 hq
        clear hq
        by_cases hpl : p = l.length
        · have hpi : ((p : Int) == (l.length : Int)) = true := by rw [hpl]; exact beq_self_eq_true _
          have HC : Hid (∀ W : World, Calls Try.prog 10 #[holdV yf yr yc, holdV yf xr xc] W fun e w' => e = .returned (.bool (lessB ⟨yf, yr, yc⟩ ⟨yf, xr, xc⟩)) ∧ Below W.heap.size W w') := fun W => iHoldLess_any ⟨yf, yr, yc⟩ ⟨yf, xr, xc⟩ W
          have HQ : Hid (lookN l ⟨yf, xr, xc⟩ p i = if lessB ⟨yf, yr, yc⟩ ⟨yf, xr, xc⟩ = false then i else p) := by
            rw [Hid, HL.out]
            simp [hpl]
          clear HL
          subst hpl
          generalize lessB ⟨yf, yr, yc⟩ ⟨yf, xr, xc⟩ = bl at *
          cases bl
          · gi_wp2_with fail
            refine ⟨trivial, (CallsIn.inRound lp (callsIn_wide.2 (HC.out _))).mono ?_⟩
            rintro e w1 ⟨rfl, hb1⟩
            have hB2 := hB1.trans (hb1.mono hB1.size)
            have hKp := hb1.mono hB1.size
            have hKf := keeps_of_below hb1 W0.heap.size
            have bL2 := bL1.on hb1
            have bX2 := bX1.on hb1
            have bP2 := bP1.on hb1
            have bT2 := bT1.on hb1
            have kP := bP2.cell 0
            have kF := bP2.free 0
            clear hb1
            gi_wp2_with fail
            exact ⟨hKf.trans ((KeepsOthers.setCell _ _ _).from _), hKp.setCell (p := ⟨w.heap.size + 1 + 1, 0, none⟩) (by simp; omega) _, hI.out _ HNE.out (bL2.far (by simp; omega) _) (bX2.far (by simp) _) (by rw [HQ.out]; exact bP2.set_ 0 _) (bT2.far (by simp) _) (hB2.setCell (p := ⟨w.heap.size + 1 + 1, 0, none⟩) (by simp; omega) _)⟩
          · gi_wp2_with fail
            refine ⟨trivial, (CallsIn.inRound lp (callsIn_wide.2 (HC.out _))).mono ?_⟩
            rintro e w1 ⟨rfl, hb1⟩
            have hB2 := hB1.trans (hb1.mono hB1.size)
            have hKp := hb1.mono hB1.size
            have hKf := keeps_of_below hb1 W0.heap.size
            have bL2 := bL1.on hb1
            have bX2 := bX1.on hb1
            have bP2 := bP1.on hb1
            have bT2 := bT1.on hb1
            clear hb1
            gi_wp2_with fail
            exact ⟨hKf, hKp, hI.out _ HNE.out bL2 bX2 (by rw [HQ.out]; exact bP2) bT2 hB2⟩
        · have hpi : ((p : Int) == (l.length : Int)) = false := beq_eq_false_iff_ne.2 (by omega)
          have hpj : ¬ ((p : Int) = (l.length : Int)) := by omega
          have HQ : Hid (lookN l ⟨yf, xr, xc⟩ p i = p) := by
            rw [Hid, HL.out, if_neg]
            rintro ⟨h1, -⟩
            exact hpl h1
          clear HL hpl
          gi_wp2_with fail
          refine ⟨trivial, ?_⟩
          gi_wp2_with fail
          exact ⟨KeepsFrom.refl _ _, Below.refl _ _, hI.out _ HNE.out bL1 bX1 (by rw [HQ.out]; exact bP1) bT1 hB1⟩
      · have hne : (yc == xc) = false := beq_eq_false_iff_ne.2 hq
        clear hq
        by_cases hpl : p = l.length
        · have hpi : ((p : Int) == (l.length : Int)) = true := by rw [hpl]; exact beq_self_eq_true _
          have HC : Hid (∀ W : World, Calls Try.prog 10 #[holdV yf yr yc, holdV yf yr xc] W fun e w' => e = .returned (.bool (lessB ⟨yf, yr, yc⟩ ⟨yf, yr, xc⟩)) ∧ Below W.heap.size W w') := fun W => iHoldLess_any ⟨yf, yr, yc⟩ ⟨yf, yr, xc⟩ W
          have HQ : Hid (lookN l ⟨yf, yr, xc⟩ p i = if lessB ⟨yf, yr, yc⟩ ⟨yf, yr, xc⟩ = false then i else p) := by
            rw [Hid, HL.out]
            simp [hpl]
          clear HL
          subst hpl
          generalize lessB ⟨yf, yr, yc⟩ ⟨yf, yr, xc⟩ = bl at *
          cases bl
          · gi_wp2_with fail
            refine ⟨trivial, (CallsIn.inRound lp (callsIn_wide.2 (HC.out _))).mono ?_⟩
            rintro e w1 ⟨rfl, hb1⟩
            have hB2 := hB1.trans (hb1.mono hB1.size)
            have hKp := hb1.mono hB1.size
            have hKf := keeps_of_below hb1 W0.heap.size
            have bL2 := bL1.on hb1
            have bX2 := bX1.on hb1
            have bP2 := bP1.on hb1
            have bT2 := bT1.on hb1
            have kP := bP2.cell 0
            have kF := bP2.free 0
            clear hb1
            gi_wp2_with fail
            exact ⟨hKf.trans ((KeepsOthers.setCell _ _ _).from _), hKp.setCell (p := ⟨w.heap.size + 1 + 1, 0, none⟩) (by simp; omega) _, hI.out _ HNE.out (bL2.far (by simp; omega) _) (bX2.far (by simp) _) (by rw [HQ.out]; exact bP2.set_ 0 _) (bT2.far (by simp) _) (hB2.setCell (p := ⟨w.heap.size + 1 + 1, 0, none⟩) (by simp; omega) _)⟩
          · gi_wp2_with fail
            refine ⟨trivial, (CallsIn.inRound lp (callsIn_wide.2 (HC.out _))).mono ?_⟩
            rintro e w1 ⟨rfl, hb1⟩
            have hB2 := hB1.trans (hb1.mono hB1.size)
            have hKp := hb1.mono hB1.size
            have hKf := keeps_of_below hb1 W0.heap.size
            have bL2 := bL1.on hb1
            have bX2 := bX1.on hb1
            have bP2 := bP1.on hb1
            have bT2 := bT1.on hb1
            clear hb1
            gi_wp2_with fail
            exact ⟨hKf, hKp, hI.out _ HNE.out bL2 bX2 (by rw [HQ.out]; exact bP2) bT2 hB2⟩
        · have hpi : ((p : Int) == (l.length : Int)) = false := beq_eq_false_iff_ne.2 (by omega)
          have hpj : ¬ ((p : Int) = (l.length : Int)) := by omega
          have HQ : Hid (lookN l ⟨yf, yr, xc⟩ p i = p) := by
            rw [Hid, HL.out, if_neg]
            rintro ⟨h1, -⟩
            exact hpl h1
          clear HL hpl
          gi_wp2_with fail
          refine ⟨trivial, ?_⟩
          gi_wp2_with fail
          exact ⟨KeepsFrom.refl _ _, Below.refl _ _, hI.out _ HNE.out bL1 bX1 (by rw [HQ.out]; exact bP1) bT1 hB1⟩
  case done =>
    rintro D ys W hD hS ⟨⟨hp, bL1, bX1, bP1, bT1⟩, hB1⟩ hK
    have hx := noneIs_all hS hp
    rw [placeF_all hS] at bP1
    have cP := bP1.cell 0
    have cT := bT1.cell 0
    have hmx : Try.prog.follows .mixedOrders = true := by kernel_rfl
    clear hp bL bX bP bT bC hl hS
    gi_wp2_with fail
    gi_region_o
    gi_wp2
    refine ⟨by simp, .inl ⟨_, _, rfl, run_takeDeferred (w := W.drew) hK, ?_⟩⟩
    refine ⟨.tuple #[.int .i64 (placeL l x : Int), .bool false], ?_, placeL l x, by rw [decide_eq_false hx], fun _ => rfl, placeL_le l x, hB1.drew.trans (belowK_b (w := w) (Nat.le_refl _) W.drew D _ _ (by omega) hK rfl rfl)⟩
    simp [results, Try.f26, go_sem]
  case stop =>
    rintro D c pre W hD ⟨k, hk, hF⟩ ⟨⟨⟨rfl, hx⟩, bP1, bT1⟩, hB1⟩ hK
    have cP := bP1.cell 0
    have cT := bT1.cell 0
    have hmx : Try.prog.follows .mixedOrders = true := by kernel_rfl
    have hle := placeF_le l x pre.dropLast
    clear bL bX bP bT bC hl
    gi_wp2_with fail
    gi_region_o
    gi_wp2
    refine ⟨by simp, .inl ⟨_, _, rfl, run_takeDeferred (w := W.drew) hK, ?_⟩⟩
    refine ⟨.tuple #[.int .i64 (placeF l x pre.dropLast : Int), .bool true], ?_, placeF l x pre.dropLast, by rw [decide_eq_true hx], fun h => absurd hx h, hle, hB1.drew.trans (belowK_b (w := w) (Nat.le_refl _) W.drew D _ _ (by omega) hK rfl rfl)⟩
    simp [results, Try.f26, go_sem]
end Go.Proofs.Ytagbcfkdieinpaa
