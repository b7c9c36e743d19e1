/-
  The program's table of the kinds' words, and a table of the library's, as the row lists them; the digits of a token.
-/
import Derived.Test.YtpncnkihfijmaaaDoorReqT
import Derived.LaidLaws
import Derived.LaidMore
import Derived.Lib.LaidTab
import Derived.Lib.SmallJoins
import Derived.Lib.ItoaMem
import Derived.Lib.AppendIntMem
import Derived.Stop.LaidErr
namespace Go.Proofs.YtpncnkihfijmaaaDoor
open Go.ChangeShapes Go.WideShapes Go.ChangeAt Go.RowKit Go.ChangeMaps
set_option maxRecDepth 10000
set_option linter.unusedSimpArgs false
set_option linter.unusedVariables false

theorem gKw : Tryd.prog.globalNamed "loop.example/g00755/impl.kindWords" = some 0 := by kernel_rfl
theorem tKw : (Tryd.prog.globals[0]?).map (·.type) = some 35 := by kernel_rfl
theorem cKw : Tryd.prog.cellsOf 9 = 1 := by kernel_rfl

theorem trod_words {H : Type} {enc : TypeId × Value → H} {w : World} {base : Nat} {spare : Nat → Bool} {held : Bool} {fuel : Nat} {cs : List Value} {l : List ByteArray} {p : List MemPlace}
    (h : DataW.trod enc Tryd.prog w base spare held fuel 35 cs = some (.agg (l.map fun s => .lit (.string s.data.toList)), p)) (j : Nat) (s : ByteArray) (hj : l[j]? = some s) : cs[j]? = some (.string s) := by
  obtain ⟨xs, m, _, hx, hl, hlen, hg⟩ := DataW.trod_array Tryd.underlying35 h
  simp only [Prod.mk.injEq, DataW.agg.injEq] at hx
  have hjr := (List.getElem?_eq_some_iff.1 hj).1
  have hr : l.length = 11 := by
    have := congrArg List.length hx.1
    simp at this
    omega
  have g := hg j (by omega)
  rw [cKw] at g
  obtain ⟨x, hxj⟩ : ∃ x, xs[j]? = some x := ⟨_, List.getElem?_eq_getElem (by omega)⟩
  rw [hxj] at g
  obtain ⟨s', hc, rfl, _⟩ := DataW.trod_string Tryd.underlying9 g
  have e1 : (xs.map (·.1))[j]? = some (.lit (.string s'.data.toList)) := by rw [List.getElem?_map, hxj]; rfl
  rw [← hx.1, List.getElem?_map, hj] at e1
  simp only [Option.map_some, Option.some.injEq, DataW.lit.injEq, Lit.string.injEq] at e1
  obtain rfl : s = s' := ba_ext e1
  have e2 : (cs.drop (j * 1))[0]? = some (.string s) := by
    have := congrArg (·[0]?) hc
    simpa using this
  simpa using e2

/-- The table of the kinds' words. -/
def KwT (W : World) : Prop := ∀ (j : Nat) (s : ByteArray), kindsT[j]? = some s → W.cell? ⟨0, j, none⟩ = some (.string s)
theorem laid_kinds {L : List (String × DataW Unit)} {W : World} (k : Nat) (h : laidMet Tryd.prog L W) (hm : L[k]? = some ("loop.example/g00755/impl.kindWords", .agg (kindsT.map fun s => .lit (.string s.data.toList)))) : KwT W := by
  induction L generalizing k with
  | nil => cases hm
  | cons x r ih =>
    cases k with
    | succ k => exact ih k h.tail hm
    | zero =>
      cases hm
      obtain ⟨ps, ⟨g0, t0, cs0, f0, p0, q0, hg0, ht0, hv0, hd0, _, e0⟩, _, hrows⟩ := h
      obtain rfl := Option.some.inj (gKw.symm.trans hg0)
      obtain rfl := Option.some.inj (tKw.symm.trans ht0)
      intro j s hj
      have := trod_words hd0 j s hj
      rw [World.var?_cell hg0 hv0]
      simpa using this
theorem KwT.lt {W : World} (h : KwT W) : 0 < W.heap.size := World.block_lt_of_cell? W _ (h 0 _ rfl)
theorem KwT.below {W W' : World} (h : KwT W) (hb : Below W.heap.size W W') : KwT W' := fun j s hj => kc hb (h j s hj) h.lt
theorem KwT.on {w W : World} (h : KwT w) (hb : Below w.heap.size w W) : KwT W := h.below hb
theorem KwT.kind {W : World} (h : KwT W) {k : Int} (hk : inB k 1 10 = true) : ∃ j : Nat, k = j ∧ j < 11 ∧ W.cell? ⟨0, j, none⟩ = some (.string (kindT k)) := by
  obtain ⟨j, rfl⟩ : ∃ j : Nat, k = j := nat_of (by simp [inB] at hk; omega)
  have hj : j < 11 := by simp [inB] at hk; omega
  exact ⟨j, rfl, hj, h j _ (by rw [kindT, List.getD_eq_getElem?_getD]; simp [List.getElem?_eq_getElem (show j < kindsT.length from hj)])⟩

/-- The powers of ten. -/
def PowT (W : World) : Prop := Lib.TabIs Tryd.prog W "internal/strconv.uint64pow10" .u64 Lib.pow10Tab
theorem gPow : Tryd.prog.globalNamed "internal/strconv.uint64pow10" = some 1 := by kernel_rfl
theorem PowT.on {w W : World} (h : PowT w) (hb : Below w.heap.size w W) : PowT W := Joins.tab_stays gPow h hb (Nat.le_refl _)
theorem laid_pows {L : List (String × DataW Unit)} {W : World} (k : Nat) (h : laidMet Tryd.prog L W) (hm : L[k]? = some ("internal/strconv.uint64pow10", Lib.tabData .u64 Lib.pow10Tab)) : PowT W := by
  induction L generalizing k with
  | nil => cases hm
  | cons x r ih =>
    cases k with
    | succ k => exact ih k h.tail hm
    | zero =>
      cases hm
      exact Lib.tabIs_of_head gPow (t := 107) (by kernel_rfl) Tryd.underlying107 Tryd.underlying91 (by kernel_rfl) (by kernel_rfl) h

theorem formatInt3 (n : Nat) (hn : n < 1000) (w : World) (ht : PowT w) : Calls Tryd.prog 31 #[.int .i64 n, .int .i64 10] w fun e w' => e = .returned (.string (dgT n)) ∧ Below w.heap.size w w' := by
  refine (Tryd.strconv_FormatInt_10 n (by omega) (by omega) w ht).mono ?_
  rintro e w' ⟨rfl, k, os, rfl⟩
  exact ⟨by rw [Lib.itoa_nonneg]; rfl, Lib.below_grow _ _ (Nat.le_refl _) _ _⟩
set_option maxHeartbeats 400000 in
theorem digits3 (n : Int) (h0 : 0 ≤ n) (h1 : n < 1000) (w : World) (ht : PowT w) : Calls Tryd.prog 15 #[.int .i64 n] w fun e w' => e = .returned (.string (dgT n)) ∧ Below w.heap.size w w' := by
  obtain ⟨m, rfl⟩ := nat_of h0
  have HF : Hid (Calls Tryd.prog 31 #[.int .i64 m, .int .i64 10] w fun e w' => e = .returned (.string (dgT (m : Int))) ∧ Below w.heap.size w w') := formatInt3 m (by omega) w ht
  generalize dgT (m : Int) = D at *
  clear ht
  go_enter Tryd.func15, Tryd.ntmps15
  go_wp2_with fail
  refine HF.out.mono ?_
  rintro e w' ⟨rfl, hb⟩
  go_wp2_with fail
  go_ret
  exact ⟨rfl, hb⟩
end Go.Proofs.YtpncnkihfijmaaaDoor
