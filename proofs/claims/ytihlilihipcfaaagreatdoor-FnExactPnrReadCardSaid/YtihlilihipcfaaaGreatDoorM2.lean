/-
  Holds: as values, as cells, as lists; HoldLess; the laws' own copies of a hold. Lists of holds: as cells; the laws' own size, copy and equality of them. Lists of holds: the laws' own equality of two that read alike. Bookings: as values; the laws' own size, copy and equality of them. impl.eachHold: holds handed out in order, each with its place: for every loop body that keeps what lay below n₀. Blocks that are known whole. isLetter, isDigit: what they answer. WordRight: both functions answer 'wordB'.
-/
import Derived.Test.YtihlilihipcfaaaGreatDoorM1
import Derived.WalkLawsBesides
import Derived.Deep.RegionHeld3
import Derived.RangeFuncNested
import Derived.RangeFuncBound
import Derived.RangeFuncCalls
import Derived.RangeFuncLeaves
import Derived.Shelf.Abstract
import Derived.Shelf.RegionOpen
import Derived.OwnWalkIn
import Derived.TacticsInMore
import Derived.LoopNIn
import Derived.LoopIn
namespace Go.Proofs.YtihlilihipcfaaaGreatDoor
open Go.ChangeShapes Go.WideShapes Go.ChangeAt Go.RowKit Go.ChangeMaps
set_option maxRecDepth 10000
set_option linter.unusedSimpArgs false
set_option linter.unusedVariables false

structure HD where
  f : ByteArray
  r : Int
  c : Int
deriving DecidableEq

/-- A hold, as a value. -/
abbrev holdV (f : ByteArray) (r c : Int) : Value := .agg #[.string f, .int .i64 r, .int .i64 c]

/-- Which of two stands ahead. -/
def lessB (a b : HD) : Bool := if a.f = b.f then (if a.r = b.r then decide (a.c < b.c) else decide (a.r < b.r)) else Op.bytesLess a.f.toList b.f.toList

set_option maxHeartbeats 400000 in
theorem eqHold_same (f : ByteArray) (r c : Int) (w : World) : Calls Tryz.prog 127 #[holdV f r c, holdV f r c] w fun e w' => e = .returned (.bool true) ∧ Below w.heap.size w w' := by
  go_enter Tryz.func127, Tryz.ntmps127
  go_wp2
  go_ret
  exact ⟨rfl, by go_grown⟩

set_option maxHeartbeats 400000 in
theorem iHoldLess_any (a b : HD) (w : World) : Calls Tryz.prog 34 #[holdV a.f a.r a.c, holdV b.f b.r b.c] w fun e w' => e = .returned (.bool (lessB a b)) ∧ Below w.heap.size w w' := by
  obtain ⟨af, ar, ac⟩ := a
  obtain ⟨bf, br, bc⟩ := b
  dsimp only
  by_cases hf : af = bf
  · subst hf
    by_cases hr : ar = br
    · subst hr
      go_enter Tryz.func34, Tryz.ntmps34
      go_wp2
      go_ret
      exact ⟨ret_bool (by simp [lessB]), by go_grown⟩
    · have hr' : (ar == br) = false := beq_eq_false_iff_ne.2 hr
      go_enter Tryz.func34, Tryz.ntmps34
      go_wp2
      go_ret
      exact ⟨ret_bool (by simp [lessB, hr]), by go_grown⟩
  · have hf' := str_ne hf
    go_enter Tryz.func34, Tryz.ntmps34
    go_wp2
    go_ret
    exact ⟨ret_bool (by simp [lessB, hf]), by go_grown⟩

set_option maxHeartbeats 400000 in
theorem sHoldLess_any (a b : HD) (w : World) : Calls Tryz.prog 35 #[holdV a.f a.r a.c, holdV b.f b.r b.c] w fun e w' => e = .returned (.bool (lessB a b)) ∧ Below w.heap.size w w' := by
  obtain ⟨af, ar, ac⟩ := a
  obtain ⟨bf, br, bc⟩ := b
  dsimp only
  by_cases hf : af = bf
  · subst hf
    by_cases hr : ar = br
    · subst hr
      go_enter Tryz.func35, Tryz.ntmps35
      go_wp2
      go_ret
      exact ⟨ret_bool (by simp [lessB]), by go_grown⟩
    · have hr' : (ar == br) = false := beq_eq_false_iff_ne.2 hr
      go_enter Tryz.func35, Tryz.ntmps35
      go_wp2
      go_ret
      exact ⟨ret_bool (by simp [lessB, hr]), by go_grown⟩
  · have hf' := str_ne hf
    go_enter Tryz.func35, Tryz.ntmps35
    go_wp2
    go_ret
    exact ⟨ret_bool (by simp [lessB, hf]), by go_grown⟩
end Go.Proofs.YtihlilihipcfaaaGreatDoor
namespace Go.Proofs.YtihlilihipcfaaaGreatDoor
open Go.ChangeShapes Go.WideShapes Go.ChangeAt Go.RowKit Go.ChangeMaps
set_option maxRecDepth 10000
set_option linter.unusedSimpArgs false
set_option linter.unusedVariables false

def holdC (x : HD) : List Value := [.string x.f, .int .i64 x.r, .int .i64 x.c]
def holdsC (l : List HD) : List Value := l.flatMap holdC
theorem holdsC_length (l : List HD) : (holdsC l).length = l.length * 3 := by
  induction l with
  | nil => rfl
  | cons x l ih => simp [holdsC, holdC] at ih ⊢; omega
theorem holdsC_append (l m : List HD) : holdsC (l ++ m) = holdsC l ++ holdsC m := by simp [holdsC]
theorem holdsC_one (l : List HD) : ∀ v ∈ holdsC l, v.oneCell' = true := by
  intro v hv
  obtain ⟨x, _, hx⟩ := List.mem_flatMap.1 hv
  simp only [holdC, List.mem_cons, List.not_mem_nil, or_false] at hx
  rcases hx with rfl | rfl | rfl <;> rfl
theorem holdsC_at {x : HD} : ∀ (l : List HD) (i : Nat), l[i]? = some x → (holdsC l)[i * 3]? = some (.string x.f) ∧ (holdsC l)[i * 3 + 1]? = some (.int .i64 x.r) ∧ (holdsC l)[i * 3 + 2]? = some (.int .i64 x.c)
  | [], i, h => by simp at h
  | y :: l, 0, h => by
    simp only [List.getElem?_cons_zero, Option.some.injEq] at h
    subst h
    exact ⟨rfl, rfl, rfl⟩
  | y :: l, i + 1, h => by
    have e : holdsC (y :: l) = .string y.f :: .int .i64 y.r :: .int .i64 y.c :: holdsC l := rfl
    obtain ⟨h1, h2, h3⟩ := holdsC_at l i (by simpa using h)
    have e0 : (i + 1) * 3 = i * 3 + 1 + 1 + 1 := by omega
    rw [e, e0]
    exact ⟨by simpa using h1, by simpa using h2, by simpa using h3⟩
theorem holdsC_take_succ {l : List HD} {k : Nat} {x : HD} (h : l[k]? = some x) : holdsC (l.take (k + 1)) = holdsC (l.take k) ++ holdC x := by
  rw [List.take_add_one, h, holdsC_append]
  rfl
theorem take_len_le {α : Type} {l : List α} {k : Nat} (h : k ≤ l.length) : (l.take k).length = k := by simp; omega

theorem Lies.hold {w : World} {B n i : Nat} {A : Option Addr} {l : List HD} (h : Lies w B 3 A n (holdsC l)) (hi : i < n) :
    ∃ b off x, A = some ⟨b, off, none⟩ ∧ b < B ∧ l[i]? = some x ∧ w.cell? ⟨b, off + i * 3, none⟩ = some (.string x.f) ∧ w.cell? ⟨b, off + i * 3 + 1, none⟩ = some (.int .i64 x.r) ∧ w.cell? ⟨b, off + i * 3 + 2, none⟩ = some (.int .i64 x.c) := by
  obtain ⟨hl, h2⟩ := h
  obtain ⟨b, off, rfl, hb, hc⟩ := h2 (by omega)
  rw [holdsC_length] at hl
  have hil : i < l.length := by omega
  obtain ⟨h0, h1, h2⟩ := holdsC_at l i (List.getElem?_eq_getElem hil)
  exact ⟨b, off, l[i], rfl, hb, List.getElem?_eq_getElem hil, hc _ _ h0, hc _ _ h1, hc _ _ h2⟩

/-- How many elements and letters. -/
def tot (l : List HD) : Nat := (l.map fun x => x.f.size).sum
theorem tot_take_succ {l : List HD} {k : Nat} {x : HD} (h : l[k]? = some x) : tot (l.take (k + 1)) = tot (l.take k) + x.f.size := by
  rw [List.take_add_one, h]
  simp [tot]
theorem tot_take_le (l : List HD) (k : Nat) : tot (l.take k) ≤ tot l := by
  have e : tot l = tot (l.take k) + tot (l.drop k) := by
    unfold tot
    rw [← List.sum_append, ← List.map_append, List.take_append_drop]
  omega
/-- What is left of n behind a list. -/
def leftI (n : Int) (l : List HD) : Int := if n < (l.length + tot l : Nat) then -1 else n - (l.length + tot l : Nat)

theorem info_hold : (Tryz.prog.info? 51).map (fun i => (i.zero, i.size, i.bytes)) = some (some (.agg #[.string ⟨#[]⟩, .int .i64 0, .int .i64 0]), 3, 32) := by kernel_rfl

end Go.Proofs.YtihlilihipcfaaaGreatDoor
namespace Go.Proofs.YtihlilihipcfaaaGreatDoor
open Go.ChangeShapes Go.WideShapes Go.ChangeAt Go.RowKit Go.ChangeMaps
set_option maxRecDepth 10000
set_option linter.unusedSimpArgs false
set_option linter.unusedVariables false

set_option maxHeartbeats 1000000 in
theorem eqHoldS_same (l : List HD) (A A' : Option Addr) (n cap cap' : Nat) (w : World) (hn : l.length = n) (hl : Lies w w.heap.size 3 A n (holdsC l)) (hl' : Lies w w.heap.size 3 A' n (holdsC l)) (hm : n ≤ 1099511627) :
    Calls Tryz.prog 105 #[.slice A n cap, .slice A' n cap'] w fun e w' => e = .returned (.bool true) ∧ Below w.heap.size w w' := by
  have HN := Lib.hid hn
  clear hn
  go_enter Tryz.func105, Tryz.ntmps105
  go_wp2
  go_loopw [5] (fun i wr => ∃ k : Nat, k ≤ n ∧ i = .int .i64 k ∧ Below w.heap.size w wr) (fun i _ => n - (intOf i).toNat)
  case atStart => exact ⟨0, Nat.zero_le _, rfl, Below.refl _ _⟩
  case round =>
    obtain ⟨k, hk, rfl, hB⟩ := hrel
    by_cases hlt : k < n
    · obtain ⟨b, off, x, rfl, hlb, hx, c0, c1, c2⟩ := (hl.below hB).hold hlt
      obtain ⟨b', off', x', rfl, hlb', hx', d0, d1, d2⟩ := (hl'.below hB).hold hlt
      obtain rfl : x' = x := Option.some.inj (hx'.symm.trans hx)
      have HT : Hid (∀ W : World, Calls Tryz.prog 127 #[holdV x'.f x'.r x'.c, holdV x'.f x'.r x'.c] W fun e w' => e = .returned (.bool true) ∧ Below W.heap.size W w') := fun W => eqHold_same x'.f x'.r x'.c W
      have hz := hB.size
      have hBd := hB.drew
      clear hx hx' hl hl'
      go_wp2_with fail
      go_region_held3 (fun W => W.cell? ⟨b, off + k * 3, none⟩ = some (.string x'.f) ∧ W.cell? ⟨b, off + k * 3 + 1, none⟩ = some (.int .i64 x'.r) ∧ W.cell? ⟨b, off + k * 3 + 2, none⟩ = some (.int .i64 x'.c) ∧
          W.cell? ⟨b', off' + k * 3, none⟩ = some (.string x'.f) ∧ W.cell? ⟨b', off' + k * 3 + 1, none⟩ = some (.int .i64 x'.r) ∧ W.cell? ⟨b', off' + k * 3 + 2, none⟩ = some (.int .i64 x'.c) ∧ Below w.heap.size w W ∧ w.heap.size ≤ W.heap.size)
        (first | (go_keep; done) | (go_split_ands; exact ⟨kc hb (by assumption) (by omega), kc hb (by assumption) (by omega), kc hb (by assumption) (by omega), kc hb (by assumption) (by omega), kc hb (by assumption) (by omega), kc hb (by assumption) (by omega), bstep hb (by assumption) (by omega), zstep hb (by assumption)⟩))
        (first | (go_at_call 127; refine (HT.out _).mono ?_; rintro e w' ⟨rfl, hb⟩))
      rename_i hHeld
      obtain ⟨-, -, -, -, -, -, hB, -⟩ := hHeld
      go_wp2_with fail
      go_roundw
      case rel => exact ⟨k + 1, by omega, by go_num, hB⟩
      case measure => simp [intOf]; omega
    · obtain rfl : k = n := by omega
      clear hl hl'
      go_wp2
      go_ret
      exact ⟨rfl, hB⟩
end Go.Proofs.YtihlilihipcfaaaGreatDoor
namespace Go.Proofs.YtihlilihipcfaaaGreatDoor
open Go.ChangeShapes Go.WideShapes Go.ChangeAt Go.RowKit Go.ChangeMaps
set_option maxRecDepth 10000
set_option linter.unusedSimpArgs false
set_option linter.unusedVariables false

structure PD where
  home : Int
  loc : Int
  owner : Int
  names : List ByteArray
  holds : List HD
  live : Bool
  offer : Int

/-- A booking, as a value. -/
abbrev pnrV (h l o : Int) (n : Nat) (A1 : Option Addr) (c1 m : Nat) (A2 : Option Addr) (c2 : Nat) (b : Bool) (f : Int) : Value :=
  .agg #[.int .i64 h, .int .i64 l, .int .i64 o, .slice A1 n c1, .slice A2 m c2, .bool b, .int .i64 f]
/-- .. of what its lists hold. -/
abbrev pdV (p : PD) (A1 : Option Addr) (c1 : Nat) (A2 : Option Addr) (c2 : Nat) : Value := pnrV p.home p.loc p.owner p.names.length A1 c1 p.holds.length A2 c2 p.live p.offer
/-- Its lists lie there. -/
def PLies (w : World) (B : Nat) (p : PD) (A1 A2 : Option Addr) : Prop := Lies w B 1 A1 p.names.length (strsC p.names) ∧ Lies w B 3 A2 p.holds.length (holdsC p.holds)
theorem PLies.below {w w' : World} {B : Nat} {p : PD} {A1 A2 : Option Addr} (h : PLies w B p A1 A2) (hb : Below B w w') : PLies w' B p A1 A2 := ⟨h.1.below hb, h.2.below hb⟩
theorem PLies.mono {w : World} {B B' : Nat} {p : PD} {A1 A2 : Option Addr} (h : PLies w B p A1 A2) (hb : B ≤ B') : PLies w B' p A1 A2 := ⟨h.1.mono hb, h.2.mono hb⟩
theorem PLies.on {w w' : World} {p : PD} {A1 A2 : Option Addr} (h : PLies w w.heap.size p A1 A2) (hb : Below w.heap.size w w') : PLies w' w'.heap.size p A1 A2 := ⟨h.1.on hb, h.2.on hb⟩
theorem PLies.drew {w : World} {B : Nat} {p : PD} {A1 A2 : Option Addr} (h : PLies w B p A1 A2) : PLies w.drew B p A1 A2 := h
theorem PLies.alloc {w : World} {p : PD} {A1 A2 : Option Addr} (h : PLies w w.heap.size p A1 A2) (o : Obj) : PLies (w.alloc o) (w.alloc o).heap.size p A1 A2 := ⟨h.1.alloc o, h.2.alloc o⟩
/-- It takes no more than it may. -/
def PFit (p : PD) : Prop := p.names.length ≤ maxLen ∧ (∀ x ∈ p.names, x.size ≤ maxLen) ∧ p.holds.length ≤ maxLen ∧ (∀ x ∈ p.holds, x.f.size ≤ maxLen)
/-- How many elements and letters a booking has. -/
def bulk (p : PD) : Nat := (p.names.length + totS p.names) + (p.holds.length + tot p.holds)
def leftP (n : Int) (p : PD) : Int := if n < (bulk p : Nat) then -1 else n - (bulk p : Nat)

theorem boxed {w w1 : World} {o : Obj} (hb : Below (w.alloc o).heap.size (w.alloc o) w1) : Below w.heap.size w w1 := ((Below.refl _ _).alloc (Nat.le_refl _) _).trans (hb.mono (by simp))

/-- What the laws' own copy of a booking is: new lists, that read alike. -/
def PnrMade (p : PD) (w : World) (e : Ending) (w' : World) : Prop :=
  ∃ (A1 : Option Addr) (c1 : Nat) (A2 : Option Addr) (c2 : Nat), e = .returned (pdV p A1 c1 A2 c2) ∧ PLies w' w'.heap.size p A1 A2 ∧ Below w.heap.size w w'
def StrsMade (l : List ByteArray) (w : World) (e : Ending) (w' : World) : Prop :=
  ∃ (A : Option Addr) (c : Nat), e = .returned (.slice A l.length c) ∧ w'.ownsRow w.heap.size 9 1 (.slice A l.length c) l.length (strsC l) ∧ Below w.heap.size w w'
def HoldsMade (l : List HD) (w : World) (e : Ending) (w' : World) : Prop :=
  ∃ (A : Option Addr) (c : Nat), e = .returned (.slice A l.length c) ∧ w'.ownsRow w.heap.size 51 3 (.slice A l.length c) l.length (holdsC l) ∧ Below w.heap.size w w'

theorem alloc3_mid (w : World) (a b c : Obj) : (((w.alloc a).alloc b).alloc c).heap[w.heap.size + 1]? = some b :=
  (Below.heap_alloc _ _ _ (by simp)).trans (by have := heap_alloc_new (w.alloc a) b; simpa using this)
theorem alloc3_last (w : World) (a b c : Obj) : (((w.alloc a).alloc b).alloc c).heap[w.heap.size + 1 + 1]? = some c := by
  have := heap_alloc_new ((w.alloc a).alloc b) c
  simpa using this

set_option maxHeartbeats 2000000 in
theorem eqPnr_same (p : PD) (A1 : Option Addr) (c1 : Nat) (A2 : Option Addr) (c2 : Nat) (B1 : Option Addr) (d1 : Nat) (B2 : Option Addr) (d2 : Nat) (w : World) (hl : PLies w w.heap.size p A1 A2) (hl' : PLies w w.heap.size p B1 B2) (hn : p.names.length ≤ 1099511627) (hh : p.holds.length ≤ 1099511627) :
    Calls Tryz.prog 64 #[pdV p A1 c1 A2 c2, pdV p B1 d1 B2 d2] w fun e w' => e = .returned (.bool true) ∧ Below w.heap.size w w' := by
  obtain ⟨h, l, o, ns, hs, b, f⟩ := p
  obtain ⟨hl1, hl2⟩ := hl
  obtain ⟨hl3, hl4⟩ := hl'
  dsimp only at *
  have HS : Hid (∀ W : World, Below w.heap.size w W → Calls Tryz.prog 104 #[.slice A1 ns.length c1, .slice B1 ns.length d1] W fun e w' => e = .returned (.bool true) ∧ Below W.heap.size W w') :=
    fun W hW => eqStringS_same ns A1 B1 ns.length c1 d1 W rfl (hl1.on hW) (hl3.on hW) hn
  have HH : Hid (∀ W : World, Below w.heap.size w W → Calls Tryz.prog 105 #[.slice A2 hs.length c2, .slice B2 hs.length d2] W fun e w' => e = .returned (.bool true) ∧ Below W.heap.size W w') :=
    fun W hW => eqHoldS_same hs A2 B2 hs.length c2 d2 W rfl (hl2.on hW) (hl4.on hW) hh
  clear hl1 hl2 hl3 hl4
  go_enter Tryz.func64, Tryz.ntmps64
  go_wp2_with fail
  refine (HS.out _ (by go_grown)).mono ?_
  rintro e w1 ⟨rfl, hb1⟩
  have hB : Below w.heap.size w w1 := Below.trans (by go_grown) (hb1.mono (by simp; omega))
  have a4 := kc hb1 (b := w.heap.size) (i := 4) (v := .slice A2 hs.length c2) (by go_simp) (by simp; omega)
  have a5 := kc hb1 (b := w.heap.size) (i := 5) (v := .bool b) (by go_simp) (by simp; omega)
  have a6 := kc hb1 (b := w.heap.size) (i := 6) (v := .int .i64 f) (by go_simp) (by simp; omega)
  have b4 := kc hb1 (b := w.heap.size + 1) (i := 4) (v := .slice B2 hs.length d2) (by go_simp) (by simp)
  have b5 := kc hb1 (b := w.heap.size + 1) (i := 5) (v := .bool b) (by go_simp) (by simp)
  have b6 := kc hb1 (b := w.heap.size + 1) (i := 6) (v := .int .i64 f) (by go_simp) (by simp)
  have hz : w.heap.size + 2 ≤ w1.heap.size := by have := hb1.size; simpa using this
  clear hb1
  go_wp2_with fail
  refine (HH.out _ hB).mono ?_
  rintro e w2 ⟨rfl, hb2⟩
  replace a5 := kc hb2 a5 (by omega)
  replace a6 := kc hb2 a6 (by omega)
  replace b5 := kc hb2 b5 (by omega)
  replace b6 := kc hb2 b6 (by omega)
  have hB2 := hB.trans (hb2.mono (by omega))
  clear hb2 hB
  go_wp2_with fail
  go_ret
  exact ⟨rfl, hB2⟩
end Go.Proofs.YtihlilihipcfaaaGreatDoor
namespace Go.Proofs.YtihlilihipcfaaaGreatDoor
open Go.ChangeShapes Go.WideShapes Go.ChangeAt Go.RowKit Go.ChangeMaps
set_option maxRecDepth 10000
set_option linter.unusedSimpArgs false
set_option linter.unusedVariables false
attribute [local go_sem] Oper.semAt_some

def hAt (l : List HD) (j : Nat) : HD := (l[j]?).getD ⟨⟨#[]⟩, 0, 0⟩
theorem hAt_of {l : List HD} {j : Nat} {x : HD} (h : l[j]? = some x) : hAt l j = x := by rw [hAt, h]; rfl
theorem at_hAt {l : List HD} {j : Nat} (h : j < l.length) : l[j]? = some (hAt l j) := by rw [hAt, List.getElem?_eq_getElem h]; rfl
/-- A place, as the two values that yield is handed: the place, and what stands there. -/
def encP (l : List HD) (x : Fin l.length) : Array Value := #[.int .i64 (x.1 : Int), holdV (hAt l x.1).f (hAt l x.1).r (hAt l x.1).c]
/-- The first k places, in order. -/
def FirstK {m : Nat} (k : Nat) (pre : List (Fin m)) : Prop := pre.map (·.1) = List.range k
theorem FirstK.snoc {m k : Nat} {pre : List (Fin m)} (h : FirstK k pre) (hk : k < m) : FirstK (k + 1) (pre ++ [⟨k, hk⟩]) := by
  unfold FirstK at h ⊢
  rw [List.map_append, h, List.range_succ]
  rfl
theorem FirstK.length {m k : Nat} {pre : List (Fin m)} (h : FirstK k pre) : pre.length = k := by
  have := congrArg List.length h
  simpa using this

set_option maxRecDepth 100000 in
set_option maxHeartbeats 2000000 in
theorem each1_in (F : Fence) (n : Nat) (h8 : F.fn 110) (hro : F.round = none) (hn : 1 ≤ n) (lp Bs n₀ cap : Nat) (A : Option Addr) (l : List HD) (hm : l.length ≤ 1099511627) (J Jx : List (Fin l.length) → World → Prop) (W : World)
    (hJ : AbidesFrom W.heap.size J)
    (hY : ∀ pre x W, J pre W → pre.length < l.length → YieldAt F (n - 1) Tryz.prog lp (encP l x) W fun e W' =>
      (e = .returned (.bool true) ∧ J (pre ++ [x]) W' ∧ Below n₀ W W') ∨ (e = .returned (.bool false) ∧ Jx (pre ++ [x]) W'))
    (hn₀ : n₀ ≤ W.heap.size) (hBs : W.cell? ⟨Bs, 0, none⟩ = some (.slice A l.length cap)) (hl : Lies W n₀ 3 A l.length (holdsC l)) (h0 : J [] W) :
    CallsIn F n Tryz.prog 110 #[.func (.yield lp) #[] #[], .pointer (some ⟨Bs, 0, none⟩)] W fun e W' => (∃ v, e = .returned v) ∧
      ((∃ ys, FirstK l.length ys ∧ J ys W') ∨ (∃ pre, (∃ k, k ≤ l.length ∧ FirstK k pre) ∧ Jx pre W')) := by
  refine callsIn_of_wp Tryz.func110 rfl h8 ?_ hro
  simp only [Tryz.ntmps110, List.size_toArray, List.length_cons, List.length_nil, Nat.reduceAdd, Nat.reduceSub, Array.replicate_succ, Array.replicate_zero, List.push_toArray, List.append_toArray, List.nil_append, List.cons_append]
  gi_wp2
  gi_loopw [7] (fun i wr => ∃ (k : Nat) (pre : List (Fin l.length)), k ≤ l.length ∧ i = .int .i64 k ∧ Hid (FirstK k pre) ∧ J pre wr ∧ Below n₀ W wr) (fun i _ => l.length - (intOf i).toNat)
  case atStart => exact ⟨0, [], Nat.zero_le _, rfl, rfl, h0, Below.refl _ _⟩
  case round =>
    obtain ⟨k, pre, hk, rfl, hpre, hJs, hnx⟩ := hrel
    by_cases hlt : k < l.length
    · obtain ⟨b, off, x, rfl, hlb, hx, c0, c1, c2⟩ := (hl.below hnx).hold hlt
      have hJa : J pre (wr.alloc (.cells #[.string x.f, .int .i64 x.r, .int .i64 x.c] 51)) := hJ _ _ _ none hJs (World.grownBy_alloc _ _ _) (fun r e => by cases e)
      obtain ⟨fn, tmps, assign, body, hy, hR⟩ := hY pre ⟨k, hlt⟩ _ hJa (by rw [hpre.out.length]; exact hlt)
      have HS : Hid (FirstK (k + 1) (pre ++ [⟨k, hlt⟩])) := hpre.out.snoc hlt
      have hxx := hAt_of hx
      have HK : Hid (∀ W3 : World, Below n₀ (wr.alloc (.cells #[.string x.f, .int .i64 x.r, .int .i64 x.c] 51)) W3 → Below n₀ W W3) := fun W3 h => (hnx.alloc (Nat.le_trans hn₀ hnx.size) _).trans h
      dsimp only [encP] at hy
      rw [hxx] at hy
      clear hx hl hY hJ hxx hpre
      gi_wp2
      refine hR.mono ?_
      rintro e W3 (⟨rfl, hJ3, hk3⟩ | ⟨rfl, hJx3⟩)
      · have hB3 := HK.out _ hk3
        clear hR hy hJa hJs hk3 hnx
        gi_wp2
        go_roundw
        case rel => exact ⟨k + 1, _, by omega, by simp, HS, hJ3, hB3⟩
        case measure => simp [intOf]; omega
      · gi_wp2
        refine bodyPost_ret (results_none rfl _ _ _) rfl ?_
        exact ⟨⟨_, rfl⟩, .inr ⟨_, ⟨k + 1, by omega, HS.out⟩, hJx3⟩⟩
    · obtain rfl : k = l.length := by omega
      clear hl hY hJ
      gi_wp2
      go_end0
      exact ⟨⟨_, rfl⟩, .inl ⟨_, hpre.out, hJs⟩⟩

theorem each_stops (F : Fence) (n : Nat) (h8 : F.fn 110) (hro : F.round = none) (hn : 1 ≤ n) (Bs n₀ cap : Nat) (A : Option Addr) (l : List HD) (hm : l.length ≤ 1099511627) (w : World) (hBs : Bs < w.heap.size) (hn₀ : n₀ ≤ w.heap.size)
    (hc : w.cell? ⟨Bs, 0, none⟩ = some (.slice A l.length cap)) (hl : Lies w n₀ 3 A l.length (holdsC l)) :
    SeqStopsK F n Tryz.prog 110 #[.pointer (some ⟨Bs, 0, none⟩)] (encP l) (Below n₀) (fun ys => FirstK l.length ys) (fun pre => ∃ k, k ≤ l.length ∧ FirstK k pre) l.length w := fun lp J Jx W hW hJ _ hY h0 =>
  each1_in F n h8 hro hn lp Bs n₀ cap A l hm J Jx W hJ hY (Nat.le_trans hn₀ hW.size) ((hW.cell (p := ⟨Bs, 0, none⟩) hBs).trans hc) (hl.below (hW.mono hn₀)) h0

set_option maxHeartbeats 1000000 in
theorem each_in (F : Fence) (n : Nat) (h6 : F.fn 70) (hro : F.round = none) (A : Option Addr) (m cap : Nat) (w : World) :
    CallsIn F n Tryz.prog 70 #[.slice A m cap] w fun e w' => e = .returned (.func (.func 110) #[] #[.pointer (some ⟨w.heap.size, 0, none⟩)]) ∧ w' = w.alloc (.cells #[.slice A m cap] 38) := by
  refine callsIn_of_wp Tryz.func70 rfl h6 ?_ hro
  simp only [Tryz.ntmps70, List.size_toArray, List.length_cons, List.length_nil, Nat.reduceAdd, Nat.reduceSub, Array.replicate_succ, Array.replicate_zero, List.push_toArray, List.append_toArray, List.nil_append, List.cons_append]
  gi_wp2
  go_ret
  exact ⟨rfl, rfl⟩
end Go.Proofs.YtihlilihipcfaaaGreatDoor
namespace Go.Proofs.YtihlilihipcfaaaGreatDoor
open Go.ChangeShapes Go.WideShapes Go.ChangeAt Go.RowKit Go.ChangeMaps
set_option maxRecDepth 10000
set_option linter.unusedSimpArgs false
set_option linter.unusedVariables false

/-- Block g holds just those cells. -/
def Block (W : World) (g : Nat) (t : TypeId) (cs : Array Value) : Prop := W.heap[g]? = some (.cells cs t (0, 0))
section
variable {W W' : World} {g n : Nat} {t : TypeId} {cs : Array Value}
theorem Block.drew (h : Block W g t cs) : Block W.drew g t cs := h
theorem Block.lt (h : Block W g t cs) : g < W.heap.size := (Array.getElem?_eq_some_iff.1 h).1
theorem Block.below (h : Block W g t cs) (hb : Below n W W') (hg : g < n) : Block W' g t cs := (hb.block g hg).trans h
theorem Block.on (h : Block W g t cs) (hb : Below W.heap.size W W') : Block W' g t cs := h.below hb h.lt
theorem Block.cell (h : Block W g t cs) (i : Nat) : W.cell? ⟨g, i, none⟩ = cs[i]? := cell_of_row W g i cs t (0, 0) h
theorem Block.free (h : Block W g t cs) (i : Nat) : W.frozen? ⟨g, i, none⟩ = false := frozen_of_row W g i cs t h
theorem Block.new (w : World) (cs : Array Value) (t : TypeId) : Block (w.alloc (.cells cs t)) w.heap.size t cs := heap_alloc_new w _
theorem Block.alloc (h : Block W g t cs) (o : Obj) : Block (W.alloc o) g t cs := (Below.heap_alloc W o g h.lt).trans h
theorem Block.kept {row : Option Nat} (h : Block W g t cs) (hg : W.grownBy W' row) (hne : some g ≠ row) : Block W' g t cs := (hg.block g h.lt hne).trans h
theorem Block.far (h : Block W g t cs) {p : Addr} (hp : g ≠ p.block) (u : Value) : Block (W.setCell p u) g t cs := (Below.heap_setCell W p u g hp).trans h
theorem Block.set_ (h : Block W g t cs) (i : Nat) (u : Value) : Block (W.setCell ⟨g, i, none⟩ u) g t (cs.setIfInBounds i u) := heap_setCell_same W g i cs t u h
end
/-- That a block holds those cells speaks of cells alone. -/
theorem block_own {β : Type} (g : Nat) (t : TypeId) (f : β → Array Value) : Own (fun s W => Block W g t (f s)) := fun s X Y row hs hg hrow =>
  hs.kept hg (fun e' => by obtain ⟨o, ho, hc⟩ := hrow g e'.symm; rw [show X.heap[g]? = _ from hs] at ho; cases ho; cases hc)
/-- A call that left all that lay leaves what is no cells. -/
theorem keeps_of_below {W W' : World} (hb : Below W.heap.size W W') (B : Nat) : KeepsFrom B W W' := KeepsFrom.of_grownBy (row := none) (grown_of_below hb none) (fun j e => by cases e)

end Go.Proofs.YtihlilihipcfaaaGreatDoor
namespace Go.Proofs.YtihlilihipcfaaaGreatDoor
open Go.ChangeShapes Go.WideShapes Go.ChangeAt Go.RowKit Go.ChangeMaps
set_option maxRecDepth 10000

def letB (n : Int) : Bool := decide (97 ≤ n) && decide (n ≤ 122)
def digB (n : Int) : Bool := decide (48 ≤ n) && decide (n ≤ 57)
theorem letB_yes {n : Int} (h : letB n = true) : 97 ≤ n ∧ n ≤ 122 := by simpa [letB] using h
theorem letB_mk {n : Int} (h : 97 ≤ n) (h' : n ≤ 122) : letB n = true := by simp [letB, h, h']
theorem letB_lt {n : Int} (h : n < 97) : letB n = false := by simp [letB]; omega
theorem letB_gt {n : Int} (h : 122 < n) : letB n = false := by simp [letB]; omega
theorem digB_mk {n : Int} (h : 48 ≤ n) (h' : n ≤ 57) : digB n = true := by simp [digB, h, h']
theorem digB_lt {n : Int} (h : n < 48) : digB n = false := by simp [digB]; omega
theorem digB_gt {n : Int} (h : 57 < n) : digB n = false := by simp [digB]; omega

set_option maxHeartbeats 400000 in
theorem isLetter_any (n : Int) (w : World) : Calls Tryz.prog 130 #[.int .u8 n] w fun e w' => e = .returned (.bool (letB n)) ∧ w = w' := by
  go_enter Tryz.func130, Tryz.ntmps130
  go_wp2
  all_goals go_ret
  · have h : 97 ≤ n := by assumption
    exact ⟨ret_bool (by simp [letB, h]), rfl⟩
  · have h : n < 97 := by assumption
    exact ⟨ret_bool (by rw [letB_lt h]), rfl⟩

set_option maxHeartbeats 400000 in
theorem isDigit_any (n : Int) (w : World) : Calls Tryz.prog 131 #[.int .u8 n] w fun e w' => e = .returned (.bool (digB n)) ∧ w = w' := by
  go_enter Tryz.func131, Tryz.ntmps131
  go_wp2
  all_goals go_ret
  · have h : 48 ≤ n := by assumption
    exact ⟨ret_bool (by simp [digB, h]), rfl⟩
  · have h : n < 48 := by assumption
    exact ⟨ret_bool (by rw [digB_lt h]), rfl⟩

end Go.Proofs.YtihlilihipcfaaaGreatDoor
namespace Go.Proofs.YtihlilihipcfaaaGreatDoor
open Go.ChangeShapes Go.WideShapes Go.ChangeAt Go.RowKit Go.ChangeMaps
set_option maxRecDepth 10000
set_option linter.unusedSimpArgs false

/-- Is the byte one of a word? -/
def wdOk (c : UInt8) : Bool := letB c.toNat || digB c.toNat
/-- Are the first k bytes? -/
def wdTo (s : ByteArray) (k : Nat) : Prop := ∀ i (h : i < s.size), i < k → wdOk s[i] = true
def wordB (s : ByteArray) : Bool := decide (1 ≤ s.size ∧ s.size ≤ 8 ∧ ∀ i (h : i < s.size), wdOk s[i] = true)
theorem wordB_no {s : ByteArray} (i : Nat) (h : i < s.size) (hn : wdOk s[i] = false) : wordB s = false := by
  simp only [wordB, decide_eq_false_iff_not]
  intro hh
  rw [hh.2.2 i h] at hn
  cases hn
theorem wordB_yes {s : ByteArray} (h1 : 1 ≤ s.size) (h2 : s.size ≤ 8) (h : wdTo s s.size) : wordB s = true := by
  simp only [wordB, decide_eq_true_eq]
  exact ⟨h1, h2, fun i hi => h i hi hi⟩
theorem wordB_size {s : ByteArray} (h : s.size < 1 ∨ 8 < s.size) : wordB s = false := by
  simp only [wordB, decide_eq_false_iff_not]
  intro hh
  omega
theorem wordB_len {s : ByteArray} (h : wordB s = true) : 1 ≤ s.size ∧ s.size ≤ 8 := by
  simp only [wordB, decide_eq_true_eq] at h
  exact ⟨h.1, h.2.1⟩
theorem wdTo_succ {s : ByteArray} {k : Nat} (h : wdTo s k) (hk : k < s.size) (hc : wdOk s[k] = true) : wdTo s (k + 1) := by
  intro i hi hik
  by_cases he : i = k
  · subst he; exact hc
  · exact h i hi (by omega)

set_option maxHeartbeats 400000 in
theorem sWord_any (s : ByteArray) (w : World) (hs : s.size ≤ maxLen) : Calls Tryz.prog 59 #[.string s] w fun e w' => e = .returned (.bool (wordB s)) ∧ w = w' := by
  unfold maxLen at hs
  go_enter Tryz.func59, Tryz.ntmps59
  go_wp2
  go_loop [3] (fun i => ∃ k : Nat, k ≤ s.size ∧ i = .int .i64 k ∧ wdTo s k) (fun i => s.size - (intOf i).toNat)
  case atStart => exact ⟨0, Nat.zero_le _, rfl, fun i h hi => by omega⟩
  case round =>
    obtain ⟨k, hk, rfl, hto⟩ := hrel
    by_cases hlt : k < s.size
    · go_wp2
      all_goals first
        | (go_ret
           refine ⟨ret_bool (wordB_no k hlt ?_).symm, rfl⟩
           simp_all [wdOk, letB, digB]
           try omega)
        | (go_round
           case rel =>
             refine ⟨k + 1, by omega, by go_num, wdTo_succ hto hlt ?_⟩
             simp_all [wdOk, letB, digB]
             try omega
           case measure => simp [intOf]; omega)
    · obtain rfl : k = s.size := by omega
      by_cases h1 : 1 ≤ s.size
      · by_cases h2 : s.size ≤ 8
        · go_wp2
          go_ret
          exact ⟨ret_bool (by rw [wordB_yes h1 h2 hto]; simp; try omega), rfl⟩
        · go_wp2
          go_ret
          exact ⟨ret_bool (by rw [wordB_size (by omega)]; simp; try omega), rfl⟩
      · go_wp2
        go_ret
        exact ⟨ret_bool (by rw [wordB_size (by omega)]), rfl⟩

set_option maxHeartbeats 400000 in
theorem iWord_any (s : ByteArray) (w : World) (hs : s.size ≤ maxLen) : Calls Tryz.prog 115 #[.string s] w fun e w' => e = .returned (.bool (wordB s)) ∧ w = w' := by
  unfold maxLen at hs
  by_cases h1 : s.size < 1
  · have h0 : s.size = 0 := by omega
    go_enter Tryz.func115, Tryz.ntmps115
    go_wp2
    go_ret
    exact ⟨ret_bool (wordB_size (by omega)).symm, rfl⟩
  have h0 : ((s.size : Int) == 0) = false := by rw [beq_eq_false_iff_ne]; omega
  by_cases h2 : 8 < s.size
  · go_enter Tryz.func115, Tryz.ntmps115
    go_wp2
    go_ret
    exact ⟨ret_bool (wordB_size (by omega)).symm, rfl⟩
  go_enter Tryz.func115, Tryz.ntmps115
  go_wp2
  go_loop [3] (fun i => ∃ k : Nat, k ≤ s.size ∧ i = .int .i64 k ∧ wdTo s k) (fun i => s.size - (intOf i).toNat)
  case atStart => exact ⟨0, by omega, rfl, fun i h hi => by omega⟩
  case round =>
    obtain ⟨k, hk, rfl, hto⟩ := hrel
    by_cases hlt : k < s.size
    · go_wp2_with (first
        | (go_at_call 130; refine (isLetter_any _ _).mono ?_; rintro e w' ⟨rfl, rfl⟩)
        | (go_at_call 131; refine (isDigit_any _ _).mono ?_; rintro e w' ⟨rfl, rfl⟩))
      all_goals first
        | (go_ret
           refine ⟨ret_bool (wordB_no k hlt ?_).symm, rfl⟩
           simp_all [wdOk])
        | (go_round
           case rel =>
             refine ⟨k + 1, by omega, by go_num, wdTo_succ hto hlt ?_⟩
             simp_all [wdOk]
           case measure => simp [intOf]; omega)
    · obtain rfl : k = s.size := by omega
      go_wp2
      go_ret
      exact ⟨ret_bool (wordB_yes (by omega) (by omega) hto).symm, rfl⟩
end Go.Proofs.YtihlilihipcfaaaGreatDoor
