/-
  strconv.ParseInt(s, 10, 64): a number, or an error; the library's two sentinels as the row lists them.
-/
import Derived.Test.YtjejdfmeclbjeaaDoorShelf
import Derived.Test.YtjejdfmeclbjeaaDoorBase
import Derived.Lib.SmallJoins
import Derived.Stop.LaidErr
import Derived.LaidMore
import Derived.Shelf.Strconv.ErrVarParseInt
namespace Go.Proofs.YtjejdfmeclbjeaaDoor
open Go.ChangeShapes Go.WideShapes Go.ChangeAt Go.RowKit Go.ChangeMaps
set_option linter.unusedSimpArgs false
set_option linter.unusedVariables false

/-- The variable holds an interface value that is not nil. -/
def IfaceVar (W : World) (n : String) : Prop := ∃ u v, W.var? Tryd.prog n = some #[.iface u v]
theorem IfaceVar.below {W W' : World} {n : String} {B : Nat} (h : IfaceVar W n) (hb : Below B W W') (hB : W.heap.size ≤ B) : IfaceVar W' n := by
  obtain ⟨u, v, hv⟩ := h
  refine ⟨u, v, ?_⟩
  cases hg : Tryd.prog.globalNamed n with
  | none => simp [World.var?, hg] at hv
  | some g => exact Joins.var_stays hg hv hb hB
theorem laid_ifaceVar {L : List (String × DataW Unit)} {W : World} {n nm : String} {d : DataW Unit} {ms : Array (String × TypeId)} (k : Nat) (h : laidMet Tryd.prog L W) (hm : L[k]? = some (n, .iface nm d)) {g : Nat} {ti : TypeId}
    (hg : Tryd.prog.globalNamed n = some g) (ht : (Tryd.prog.globals[g]?).map (·.type) = some ti) (hi : Tryd.prog.underlying ti = some (.interface ms)) : IfaceVar W n := by
  induction L generalizing k with
  | nil => cases hm
  | cons x r ih =>
    cases k with
    | succ k => exact ih k h.tail hm
    | zero =>
      cases hm
      obtain ⟨ps, ⟨g0, t0, cs0, f0, p0, q0, hg0, ht0, hv0, hd0, _, e0⟩, _, hrows⟩ := h
      obtain rfl := Option.some.inj (hg.symm.trans hg0)
      obtain rfl := Option.some.inj (ht.symm.trans ht0)
      obtain ⟨f1, u, v, hcs, _⟩ := iface_of_trod hi hd0
      exact ⟨u, v, by rw [hv0, Array.eq_one_of_toList hcs]⟩

/-- The two sentinels that strconv's errors bear. -/
def ErrVars (W : World) : Prop := IfaceVar W "strconv.ErrSyntax" ∧ IfaceVar W "strconv.ErrRange"
theorem ErrVars.below {W W' : World} {B : Nat} (h : ErrVars W) (hb : Below B W W') (hB : W.heap.size ≤ B) : ErrVars W' := ⟨h.1.below hb hB, h.2.below hb hB⟩

theorem parseInt_ok (s : ByteArray) (hs : s.size ≤ 1048576) (v : Int) (h : Lib.parseIntB 64 s.data.toList = .ok v) (w : World) :
    Calls Tryd.prog 22 #[.string s, .int .i64 10, .int .i64 64] w fun e w' => e = .returned (.tuple #[.int .i64 v, .nilIface]) ∧ Below w.heap.size w w' := by
  refine (Tryd.strconv_ParseInt_10_at64_ok s (by omega) v h w).mono ?_
  rintro e w' ⟨rfl, rfl | ⟨t, rfl⟩⟩
  · exact ⟨rfl, Below.refl _ _⟩
  · exact ⟨rfl, Joins.below_bytesWorld _ _ _ _ (Nat.le_refl _)⟩

theorem parseInt_no (s : ByteArray) (hs : s.size ≤ 1048576) (h : ∀ v, Lib.parseIntB 64 s.data.toList ≠ .ok v) (w : World) (hE : ErrVars w) :
    Calls Tryd.prog 22 #[.string s, .int .i64 10, .int .i64 64] w fun e w' => (∃ n N, e = .returned (.tuple #[.int .i64 n, .iface 65 (.pointer (some ⟨N, 0, none⟩))])) ∧ Below w.heap.size w w' := by
  obtain ⟨⟨u1, v1, h1⟩, u2, v2, h2⟩ := hE
  rcases hp : Lib.parseIntB 64 s.data.toList with v | _ | _
  · exact absurd hp (h v)
  · refine (Any.strconv_ParseInt_10_at64_syntax_var Tryd.laysC174 s (by omega) hp u1 v1 w h1).mono ?_
    rintro e w' ⟨N, he, _, _, hb⟩
    exact ⟨⟨_, N, he⟩, hb⟩
  · refine (Any.strconv_ParseInt_10_at64_range_var Tryd.laysC174 s (by omega) hp u2 v2 w h2).mono ?_
    rintro e w' ⟨N, he, _, _, hb⟩
    exact ⟨⟨_, N, he⟩, hb⟩
end Go.Proofs.YtjejdfmeclbjeaaDoor
