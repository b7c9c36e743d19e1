/-
  The text of a booking, as both functions write it.
-/
import Derived.Test.YtihlilihipcfaaaDoorPnrRightI
import Derived.Test.YtihlilihipcfaaaDoorSeatText
import Derived.Test.YtihlilihipcfaaaDoorSeatTextL
namespace Go.Proofs.YtihlilihipcfaaaDoor
open Go.ChangeShapes Go.WideShapes Go.ChangeAt Go.RowKit Go.ChangeMaps
set_option maxRecDepth 10000
set_option linter.unusedSimpArgs false
set_option linter.unusedVariables false

def dgT (n : Int) : ByteArray := ⟨(Lib.decDigits n.toNat).toArray⟩
theorem dgT_size {n : Int} (h0 : 0 ≤ n) (h1 : n < 10) : (dgT n).size = 1 := by
  rw [dgT, bsize, Lib.decDigits_one (by omega)]
  rfl
def seatT (r c : Int) : ByteArray := ⟨(seatTextL r c).toArray⟩
theorem seatT_size {r c : Int} (h : seatB r c = true) : (seatT r c).size ≤ 3 := by
  obtain ⟨⟨r1, r2⟩, c1, c2⟩ := seatB_parts h
  rw [seatT, bsize, seatTextL, if_pos h]
  have : (Lib.decDigits r.toNat).length ≤ 2 := by
    by_cases h : r.toNat < 10
    · rw [Lib.decDigits_one h]; simp
    · rw [Lib.decDigits_two h (by omega)]; simp
  simp
  omega
abbrev dotA : ByteArray := ⟨#[46]⟩
abbrev ofA : ByteArray := ⟨#[32, 111, 102, 32]⟩
abbrev liveA : ByteArray := ⟨#[32, 108, 105, 118, 101]⟩
abbrev goneA : ByteArray := ⟨#[32, 103, 111, 110, 101]⟩
abbrev toA : ByteArray := ⟨#[32, 116, 111, 32]⟩
abbrev plusA : ByteArray := ⟨#[32, 43]⟩
abbrev spA : ByteArray := ⟨#[32]⟩
abbrev colA : ByteArray := ⟨#[58]⟩
def headT (h l o : Int) : ByteArray := (((dgT h ++ dotA) ++ dgT l) ++ ofA) ++ dgT o
def liveT (b : Bool) (t : ByteArray) : ByteArray := if b then t ++ liveA else t ++ goneA
def offT (f : Int) (t : ByteArray) : ByteArray := if f = 0 then t else (t ++ toA) ++ dgT f
def nameT (t s : ByteArray) : ByteArray := (t ++ plusA) ++ s
def holdT (t : ByteArray) (x : HD) : ByteArray := (((t ++ spA) ++ x.f) ++ colA) ++ seatT x.r x.c
def textT (p : PD) : ByteArray := if rightB p = true then p.holds.foldl holdT (p.names.foldl nameT (offT p.offer (liveT p.live (headT p.home p.loc p.owner)))) else ⟨#[]⟩

theorem right_parts {p : PD} (h : rightB p = true) : ((1 ≤ p.home ∧ p.home ≤ 4) ∧ (1 ≤ p.owner ∧ p.owner ≤ 4) ∧ (1 ≤ p.loc ∧ p.loc ≤ 9)) ∧ (p.names.length ≤ 4 ∧ ∀ s ∈ p.names, wordB s = true) ∧ (p.holds.length ≤ 4 ∧ ∀ x ∈ p.holds, wordB x.f = true ∧ seatB x.r x.c = true) ∧ (0 ≤ p.offer ∧ p.offer ≤ 4) := by
  simp only [rightB, Bool.and_eq_true, houseB, decide_eq_true_eq, inB, namesOkB, holdsOkB, offerB, Bool.or_eq_true] at h
  obtain ⟨⟨h1, h2, h3, h4⟩, ⟨⟨h5, h6⟩, h7, h8⟩, h9, -⟩ := h
  refine ⟨⟨h1, h2, h3, h4⟩, ⟨h5, fun s hs => List.all_eq_true.1 h6 s hs⟩, ⟨h7, fun x hx => ?_⟩, ?_⟩
  · obtain ⟨i, hi, rfl⟩ := List.getElem_of_mem hx
    have := List.all_eq_true.1 h8 i (List.mem_range.2 hi)
    rw [okAt, hAt_of (List.getElem?_eq_getElem hi)] at this
    simp only [Bool.and_eq_true] at this
    exact ⟨this.1, this.2.1⟩
  · rcases h9 with h9 | h9
    · omega
    · omega

theorem wordB_le {s : ByteArray} (h : wordB s = true) : s.size ≤ 8 := (of_decide_eq_true h).2.1

theorem headT_size {h l o : Int} (h1 : 1 ≤ h ∧ h ≤ 4) (h2 : 1 ≤ o ∧ o ≤ 4) (h3 : 1 ≤ l ∧ l ≤ 9) : (headT h l o).size = 8 := by
  simp [headT, ByteArray.size_append, dgT_size (n := h) (by omega) (by omega), dgT_size (n := l) (by omega) (by omega), dgT_size (n := o) (by omega) (by omega)]
  rfl
theorem liveT_size (b : Bool) (t : ByteArray) : (liveT b t).size = t.size + 5 := by
  cases b <;> simp [liveT, ByteArray.size_append] <;> rfl
theorem offT_size {f : Int} (h : 0 ≤ f ∧ f ≤ 4) (t : ByteArray) : (offT f t).size ≤ t.size + 5 := by
  unfold offT
  split
  · omega
  · simp [ByteArray.size_append, dgT_size (n := f) (by omega) (by omega)]
    exact Nat.le_refl 4
theorem namesT_size : ∀ (l : List ByteArray) (t : ByteArray), (∀ s ∈ l, wordB s = true) → (l.foldl nameT t).size ≤ t.size + 10 * l.length
  | [], t, _ => by simp
  | s :: l, t, h => by
    have h1 := namesT_size l (nameT t s) (fun x hx => h x (List.mem_cons_of_mem _ hx))
    have h2 := wordB_le (h s List.mem_cons_self)
    have h3 : (nameT t s).size = t.size + 2 + s.size := by simp [nameT, ByteArray.size_append]; rfl
    simp only [List.foldl_cons, List.length_cons]
    omega
theorem foldl_take_succ {α β : Type} (f : β → α → β) (b : β) {l : List α} {k : Nat} {x : α} (h : l[k]? = some x) : (l.take (k + 1)).foldl f b = f ((l.take k).foldl f b) x := by
  rw [List.take_add_one, h]
  simp
theorem holdsT_size : ∀ (l : List HD) (t : ByteArray), (∀ x ∈ l, wordB x.f = true ∧ seatB x.r x.c = true) → (l.foldl holdT t).size ≤ t.size + 13 * l.length
  | [], t, _ => by simp
  | s :: l, t, h => by
    have h1 := holdsT_size l (holdT t s) (fun x hx => h x (List.mem_cons_of_mem _ hx))
    have h2 := wordB_le (h s List.mem_cons_self).1
    have h4 := seatT_size (h s List.mem_cons_self).2
    have h3 : (holdT t s).size = t.size + 1 + s.f.size + 1 + (seatT s.r s.c).size := by simp [holdT, ByteArray.size_append]; rfl
    simp only [List.foldl_cons, List.length_cons]
    omega
end Go.Proofs.YtihlilihipcfaaaDoor
