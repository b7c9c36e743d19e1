/-
  slices.Equal at texts, and at holds. A hold put in its place among others, as lists. Over any program. Two holds held against each other; blocks in a class of worlds.
-/
import Derived.Test.YtpncnkihfijmaaaGreatDoorM1
namespace Go.Proofs.YtpncnkihfijmaaaGreatDoor
open Go.ChangeShapes Go.WideShapes Go.ChangeAt Go.RowKit Go.ChangeMaps
set_option maxRecDepth 10000
set_option linter.unusedSimpArgs false
set_option linter.unusedVariables false

def strsB (l m : List ByteArray) : Bool := decide (l = m)
def holdsB (l m : List HD) : Bool := decide (l = m)
theorem take_eq_succ {α : Type} {l m : List α} {k : Nat} {x : α} (h : l.take k = m.take k) (hl : l[k]? = some x) (hm : m[k]? = some x) : l.take (k + 1) = m.take (k + 1) := by
  rw [List.take_add_one, List.take_add_one, h, hl, hm]
theorem ne_of_at {α : Type} {l m : List α} {k : Nat} {x y : α} (hl : l[k]? = some x) (hm : m[k]? = some y) (h : x ≠ y) : l ≠ m := fun e => h (by rw [e, hm] at hl; exact (Option.some.inj hl).symm)

set_option maxHeartbeats 1000000 in
theorem equalS_any (l m : List ByteArray) (A A' : Option Addr) (cap cap' : Nat) (w : World) (hl : Lies w w.heap.size 1 A l.length (strsC l)) (hl' : Lies w w.heap.size 1 A' m.length (strsC m)) (hm : l.length ≤ 1099511627) (hm' : m.length ≤ 1099511627) :
    Calls Tryz.prog 81 #[.slice A l.length cap, .slice A' m.length cap'] w fun e w' => e = .returned (.bool (strsB l m)) ∧ Below w.heap.size w w' := by
  have HR : Hid (strsB l m = decide (l = m)) := rfl
  generalize strsB l m = R at *
  by_cases hn : l.length = m.length
  · rw [← hn] at hl' ⊢
    have HN := Lib.hid hn
    clear hn hm'
    go_enter Tryz.func81, Tryz.ntmps81
    go_wp2
    go_loopw [13] (fun i wr => ∃ k : Nat, k ≤ l.length ∧ i = .int .i64 k ∧ Hid (l.take k = m.take k) ∧ Below w.heap.size w wr) (fun i _ => l.length - (intOf i).toNat)
    case atStart => exact ⟨0, Nat.zero_le _, rfl, rfl, Below.refl _ _⟩
    case round =>
      obtain ⟨k, hk, rfl, HT, hB⟩ := hrel
      by_cases hlt : k < l.length
      · obtain ⟨b, off, x, rfl, hlb, hx, c0⟩ := (hl.below hB).str hlt
        obtain ⟨b', off', y, rfl, hlb', hy, d0⟩ := (hl'.below hB).str hlt
        have hz := hB.size
        have hBd := hB.drew
        clear hl hl'
        by_cases hxy : x = y
        · subst hxy
          have HT2 := Lib.hid (take_eq_succ HT.out hx hy)
          clear hx hy HT
          go_wp2_with fail
          go_region_held3 (fun W => W.cell? ⟨b, off + k, none⟩ = some (.string x) ∧ W.cell? ⟨b', off' + k, none⟩ = some (.string x) ∧ Below w.heap.size w W ∧ w.heap.size ≤ W.heap.size) (go_keep) (fail)
          rename_i hHeld
          obtain ⟨-, -, hB, -⟩ := hHeld
          go_wp2_with fail
          go_roundw
          case rel => exact ⟨k + 1, by omega, by go_num, HT2.out, hB⟩
          case measure => simp [intOf]; omega
        · have HNE := Lib.hid (ne_of_at hx hy hxy)
          have hne := str_ne hxy
          clear hx hy HT hxy
          go_wp2_with fail
          go_region_held3 (fun W => W.cell? ⟨b, off + k, none⟩ = some (.string x) ∧ W.cell? ⟨b', off' + k, none⟩ = some (.string y) ∧ Below w.heap.size w W ∧ w.heap.size ≤ W.heap.size) (go_keep) (fail)
          rename_i hHeld
          obtain ⟨-, -, hB, -⟩ := hHeld
          go_wp2_with fail
          go_ret
          exact ⟨ret_bool (by rw [HR.out, decide_eq_false HNE.out]), hB⟩
      · obtain rfl : k = l.length := by omega
        have HE : Hid (l = m) := by
          have := HT.out
          rw [List.take_length, HN.out, List.take_length] at this
          exact this
        clear hl hl' HT
        go_wp2
        go_ret
        exact ⟨ret_bool (by rw [HR.out, decide_eq_true HE.out]), hB⟩
  · have HNE : Hid (l ≠ m) := fun e => hn (by rw [e])
    have hn' : ¬ ((l.length : Int) = (m.length : Int)) := by omega
    clear hl hl'
    go_enter Tryz.func81, Tryz.ntmps81
    go_wp2
    go_ret
    exact ⟨ret_bool (by rw [HR.out, decide_eq_false HNE.out]), Below.refl _ _⟩

theorem ne_parts {x y : HD} (h : x ≠ y) : x.f ≠ y.f ∨ (x.f = y.f ∧ x.r ≠ y.r) ∨ (x.f = y.f ∧ x.r = y.r ∧ x.c ≠ y.c) := by
  obtain ⟨a, b, c⟩ := x
  obtain ⟨a', b', c'⟩ := y
  by_cases h1 : a = a'
  · by_cases h2 : b = b'
    · exact .inr (.inr ⟨h1, h2, fun h3 => h (by simp at h3; subst h1 h2 h3; rfl)⟩)
    · exact .inr (.inl ⟨h1, h2⟩)
  · exact .inl h1

set_option maxHeartbeats 2000000 in
theorem equalH_any (l m : List HD) (A A' : Option Addr) (cap cap' : Nat) (w : World) (hl : Lies w w.heap.size 3 A l.length (holdsC l)) (hl' : Lies w w.heap.size 3 A' m.length (holdsC m)) (hm : l.length ≤ 1099511627) (hm' : m.length ≤ 1099511627) :
    Calls Tryz.prog 82 #[.slice A l.length cap, .slice A' m.length cap'] w fun e w' => e = .returned (.bool (holdsB l m)) ∧ Below w.heap.size w w' := by
  have HR : Hid (holdsB l m = decide (l = m)) := rfl
  generalize holdsB l m = R at *
  by_cases hn : l.length = m.length
  · rw [← hn] at hl' ⊢
    have HN := Lib.hid hn
    clear hn hm'
    go_enter Tryz.func82, Tryz.ntmps82
    go_wp2
    go_loopw [13] (fun i wr => ∃ k : Nat, k ≤ l.length ∧ i = .int .i64 k ∧ Hid (l.take k = m.take k) ∧ Below w.heap.size w wr) (fun i _ => l.length - (intOf i).toNat)
    case atStart => exact ⟨0, Nat.zero_le _, rfl, rfl, Below.refl _ _⟩
    case round =>
      obtain ⟨k, hk, rfl, HT, hB⟩ := hrel
      by_cases hlt : k < l.length
      · obtain ⟨b, off, x, rfl, hlb, hx, c0, c1, c2⟩ := (hl.below hB).hold hlt
        obtain ⟨b', off', y, rfl, hlb', hy, d0, d1, d2⟩ := (hl'.below hB).hold hlt
        have hz := hB.size
        have hBd := hB.drew
        clear hl hl'
        by_cases hxy : x = y
        · subst hxy
          have HT2 := Lib.hid (take_eq_succ HT.out hx hy)
          obtain ⟨xf, xr, xc⟩ := x
          dsimp only at c0 c1 c2 d0 d1 d2
          clear hx hy HT
          go_wp2_with fail
          go_region_held3 (fun W => W.cell? ⟨b, off + k * 3, none⟩ = some (.string xf) ∧ W.cell? ⟨b, off + k * 3 + 1, none⟩ = some (.int .i64 xr) ∧ W.cell? ⟨b, off + k * 3 + 2, none⟩ = some (.int .i64 xc) ∧ W.cell? ⟨b', off' + k * 3, none⟩ = some (.string xf) ∧ W.cell? ⟨b', off' + k * 3 + 1, none⟩ = some (.int .i64 xr) ∧ W.cell? ⟨b', off' + k * 3 + 2, none⟩ = some (.int .i64 xc) ∧ Below w.heap.size w W ∧ w.heap.size ≤ W.heap.size) (go_keep) (fail)
          rename_i hHeld
          obtain ⟨-, -, -, -, -, -, hB, -⟩ := hHeld
          go_wp2_with fail
          go_roundw
          case rel => exact ⟨k + 1, by omega, by go_num, HT2.out, hB⟩
          case measure => simp [intOf]; omega
        · have HNE := Lib.hid (ne_of_at hx hy hxy)
          have hp := ne_parts hxy
          obtain ⟨xf, xr, xc⟩ := x
          obtain ⟨yf, yr, yc⟩ := y
          dsimp only at c0 c1 c2 d0 d1 d2 hp
          clear hx hy HT hxy
          rcases hp with hp | ⟨rfl, hp⟩ | ⟨rfl, rfl, hp⟩
          · have hne := str_ne hp
            clear hp
            go_wp2_with fail
            go_region_held3 (fun W => W.cell? ⟨b, off + k * 3, none⟩ = some (.string xf) ∧ W.cell? ⟨b, off + k * 3 + 1, none⟩ = some (.int .i64 xr) ∧ W.cell? ⟨b, off + k * 3 + 2, none⟩ = some (.int .i64 xc) ∧ W.cell? ⟨b', off' + k * 3, none⟩ = some (.string yf) ∧ W.cell? ⟨b', off' + k * 3 + 1, none⟩ = some (.int .i64 yr) ∧ W.cell? ⟨b', off' + k * 3 + 2, none⟩ = some (.int .i64 yc) ∧ Below w.heap.size w W ∧ w.heap.size ≤ W.heap.size) (go_keep) (fail)
            rename_i hHeld
            obtain ⟨-, -, -, -, -, -, hB, -⟩ := hHeld
            go_wp2_with fail
            go_ret
            exact ⟨ret_bool (by rw [HR.out, decide_eq_false HNE.out]), hB⟩
          · have hne : (xr == yr) = false := beq_eq_false_iff_ne.2 hp
            clear hp
            go_wp2_with fail
            go_region_held3 (fun W => W.cell? ⟨b, off + k * 3, none⟩ = some (.string xf) ∧ W.cell? ⟨b, off + k * 3 + 1, none⟩ = some (.int .i64 xr) ∧ W.cell? ⟨b, off + k * 3 + 2, none⟩ = some (.int .i64 xc) ∧ W.cell? ⟨b', off' + k * 3, none⟩ = some (.string xf) ∧ W.cell? ⟨b', off' + k * 3 + 1, none⟩ = some (.int .i64 yr) ∧ W.cell? ⟨b', off' + k * 3 + 2, none⟩ = some (.int .i64 yc) ∧ Below w.heap.size w W ∧ w.heap.size ≤ W.heap.size) (go_keep) (fail)
            rename_i hHeld
            obtain ⟨-, -, -, -, -, -, hB, -⟩ := hHeld
            go_wp2_with fail
            go_ret
            exact ⟨ret_bool (by rw [HR.out, decide_eq_false HNE.out]), hB⟩
          · have hne : (xc == yc) = false := beq_eq_false_iff_ne.2 hp
            clear hp
            go_wp2_with fail
            go_region_held3 (fun W => W.cell? ⟨b, off + k * 3, none⟩ = some (.string xf) ∧ W.cell? ⟨b, off + k * 3 + 1, none⟩ = some (.int .i64 xr) ∧ W.cell? ⟨b, off + k * 3 + 2, none⟩ = some (.int .i64 xc) ∧ W.cell? ⟨b', off' + k * 3, none⟩ = some (.string xf) ∧ W.cell? ⟨b', off' + k * 3 + 1, none⟩ = some (.int .i64 xr) ∧ W.cell? ⟨b', off' + k * 3 + 2, none⟩ = some (.int .i64 yc) ∧ Below w.heap.size w W ∧ w.heap.size ≤ W.heap.size) (go_keep) (fail)
            rename_i hHeld
            obtain ⟨-, -, -, -, -, -, hB, -⟩ := hHeld
            go_wp2_with fail
            go_ret
            exact ⟨ret_bool (by rw [HR.out, decide_eq_false HNE.out]), hB⟩
      · obtain rfl : k = l.length := by omega
        have HE : Hid (l = m) := by
          have := HT.out
          rw [List.take_length, HN.out, List.take_length] at this
          exact this
        clear hl hl' HT
        go_wp2
        go_ret
        exact ⟨ret_bool (by rw [HR.out, decide_eq_true HE.out]), hB⟩
  · have HNE : Hid (l ≠ m) := fun e => hn (by rw [e])
    have hn' : ¬ ((l.length : Int) = (m.length : Int)) := by omega
    clear hl hl'
    go_enter Tryz.func82, Tryz.ntmps82
    go_wp2
    go_ret
    exact ⟨ret_bool (by rw [HR.out, decide_eq_false HNE.out]), Below.refl _ _⟩
end Go.Proofs.YtpncnkihfijmaaaGreatDoor
namespace Go.Proofs.YtpncnkihfijmaaaGreatDoor
open Go.ChangeShapes Go.WideShapes Go.ChangeAt Go.RowKit Go.ChangeMaps
set_option maxRecDepth 10000
set_option linter.unusedSimpArgs false
set_option linter.unusedVariables false

/-- Ahead of which one x belongs. -/
def placeL (l : List HD) (x : HD) : Nat := (l.takeWhile (fun y => lessB y x)).length
/-- x put in. -/
def putL (l : List HD) (x : HD) : List HD := if 400 < l.length then [] else if x ∈ l then l else l.take (placeL l x) ++ ([x] ++ l.drop (placeL l x))

theorem placeL_le (l : List HD) (x : HD) : placeL l x ≤ l.length := (List.takeWhile_sublist _).length_le
theorem placeL_succ {x y : HD} : ∀ {l : List HD} {k : Nat}, k ≤ placeL l x → l[k]? = some y → lessB y x = true → k + 1 ≤ placeL l x
  | [], k, _, h, _ => by simp at h
  | z :: l, 0, _, h, hy => by
    simp only [List.getElem?_cons_zero, Option.some.injEq] at h
    subst h
    simp [placeL, List.takeWhile_cons, hy]
  | z :: l, k + 1, hk, h, hy => by
    unfold placeL at hk ⊢
    rw [List.takeWhile_cons] at hk ⊢
    cases hz : lessB z x
    · rw [hz] at hk; simp at hk
    · rw [hz] at hk
      simp only [if_true, List.length_cons] at hk ⊢
      have := placeL_succ (l := l) (k := k) (x := x) (by unfold placeL; omega) (by simpa using h) hy
      unfold placeL at this
      omega
theorem placeL_stop {x y : HD} : ∀ {l : List HD} {k : Nat}, k ≤ placeL l x → l[k]? = some y → lessB y x = false → placeL l x = k
  | [], k, _, h, _ => by simp at h
  | z :: l, 0, _, h, hy => by
    simp only [List.getElem?_cons_zero, Option.some.injEq] at h
    subst h
    simp [placeL, List.takeWhile_cons, hy]
  | z :: l, k + 1, hk, h, hy => by
    unfold placeL at hk ⊢
    rw [List.takeWhile_cons] at hk ⊢
    cases hz : lessB z x
    · rw [hz] at hk; simp at hk
    · rw [hz] at hk
      simp only [if_true, List.length_cons] at hk ⊢
      have := placeL_stop (l := l) (k := k) (x := x) (by unfold placeL; omega) (by simpa using h) hy
      unfold placeL at this
      omega
theorem notin_succ {l : List HD} {k : Nat} {x y : HD} (h : x ∉ l.take k) (hy : l[k]? = some y) (hn : y ≠ x) : x ∉ l.take (k + 1) := by
  rw [List.take_add_one, hy]
  simp only [Option.toList_some, List.mem_append, List.mem_singleton, not_or]
  exact ⟨h, fun e => hn e.symm⟩
theorem mem_at {l : List HD} {k : Nat} {x : HD} (hy : l[k]? = some x) : x ∈ l := List.mem_of_getElem? hy

theorem putL_big {l : List HD} {x : HD} (h : 400 < l.length) : putL l x = [] := if_pos h
theorem putL_there {l : List HD} {x : HD} (h : ¬ 400 < l.length) (hx : x ∈ l) : putL l x = l := by rw [putL, if_neg h, if_pos hx]
theorem putL_new {l : List HD} {x : HD} (h : ¬ 400 < l.length) (hx : x ∉ l) : putL l x = l.take (placeL l x) ++ ([x] ++ l.drop (placeL l x)) := by rw [putL, if_neg h, if_neg hx]
theorem putL_len {l : List HD} {x : HD} (h : ¬ 400 < l.length) (hx : x ∉ l) : (putL l x).length = l.length + 1 := by
  rw [putL_new h hx]
  have := placeL_le l x
  simp
  omega
theorem putL_le (l : List HD) (x : HD) : (putL l x).length ≤ 401 := by
  by_cases h : 400 < l.length
  · rw [putL_big h]; simp
  · by_cases hx : x ∈ l
    · rw [putL_there h hx]; omega
    · rw [putL_len h hx]; omega
theorem putL_size {l : List HD} {x : HD} (h : ∀ y ∈ l, y.f.size ≤ maxLen) (hx : x.f.size ≤ maxLen) : ∀ y ∈ putL l x, y.f.size ≤ maxLen := by
  intro y hy
  unfold putL at hy
  split at hy
  · cases hy
  · split at hy
    · exact h y hy
    · simp only [List.mem_append, List.mem_singleton] at hy
      rcases hy with hy | rfl | hy
      · exact h y (List.mem_of_mem_take hy)
      · exact hx
      · exact h y (List.mem_of_mem_drop hy)

/-- A slice's beginning, and its rest. -/
theorem Lies.take {w : World} {B n k : Nat} {A : Option Addr} {l : List HD} (h : Lies w B 3 A n (holdsC l)) (hk : k ≤ n) : Lies w B 3 A k (holdsC (l.take k)) := by
  obtain ⟨h1, h2⟩ := h
  rw [holdsC_length] at h1
  have hn : l.length = n := by omega
  refine ⟨by rw [holdsC_length, List.length_take]; simp only [Nat.min_def]; split <;> omega, fun h0 => ?_⟩
  obtain ⟨b, off, e, hb, hc⟩ := h2 (by omega)
  refine ⟨b, off, e, hb, fun j u hu => hc j u ?_⟩
  have e1 : holdsC l = holdsC (l.take k) ++ holdsC (l.drop k) := by rw [← holdsC_append, List.take_append_drop]
  rw [e1, List.getElem?_append_left (by rw [List.getElem?_eq_some_iff] at hu; exact hu.1)]
  exact hu
theorem Lies.rest {w : World} {B n k b off : Nat} {l : List HD} (h : Lies w B 3 (some ⟨b, off, none⟩) n (holdsC l)) (hk : k < n) : Lies w B 3 (some ⟨b, off + k * 3, none⟩) (n - k) (holdsC (l.drop k)) := by
  obtain ⟨h1, h2⟩ := h
  rw [holdsC_length] at h1
  have hn : l.length = n := by omega
  refine ⟨by rw [holdsC_length, List.length_drop]; omega, fun h0 => ?_⟩
  obtain ⟨b', off', e, hb, hc⟩ := h2 (by omega)
  cases e
  refine ⟨b, off + k * 3, rfl, hb, fun j u hu => ?_⟩
  have e1 : holdsC l = holdsC (l.take k) ++ holdsC (l.drop k) := by rw [← holdsC_append, List.take_append_drop]
  have e2 : (holdsC (l.take k)).length = k * 3 := by rw [holdsC_length, take_len_le (by omega)]
  rw [Nat.add_assoc]
  refine hc (k * 3 + j) u ?_
  rw [e1, List.getElem?_append_right (by omega), e2, Nat.add_sub_cancel_left]
  exact hu
end Go.Proofs.YtpncnkihfijmaaaGreatDoor
namespace Go.Proofs.YtpncnkihfijmaaaGreatDoor
open Go.ChangeShapes Go.WideShapes Go.ChangeAt Go.RowKit Go.ChangeMaps
set_option maxRecDepth 10000
set_option linter.unusedSimpArgs false
set_option linter.unusedVariables false

set_option maxHeartbeats 1000000 in
theorem hold_eql (f : ByteArray) (r c : Int) (f' : ByteArray) (r' c' : Int) (W : World) :
    (binOp .eql 49 (holdV f r c) (holdV f' r' c')).run Tryz.prog W = .ok (.bool (decide ((⟨f, r, c⟩ : HD) = ⟨f', r', c'⟩))) W := by
  by_cases e : (⟨f, r, c⟩ : HD) = ⟨f', r', c'⟩
  · rw [decide_eq_true e]
    cases e
    go_simp
  · rw [decide_eq_false e]
    have ef : f.toList = f'.toList → f = f' := str_inj
    simp only [HD.mk.injEq] at e
    go_simp
    intros
    simp_all
set_option maxHeartbeats 1000000 in
theorem hold_neq (f : ByteArray) (r c : Int) (f' : ByteArray) (r' c' : Int) (W : World) :
    (binOp .neq 49 (holdV f r c) (holdV f' r' c')).run Tryz.prog W = .ok (.bool (!decide ((⟨f, r, c⟩ : HD) = ⟨f', r', c'⟩))) W := by
  by_cases e : (⟨f, r, c⟩ : HD) = ⟨f', r', c'⟩
  · rw [decide_eq_true e]
    cases e
    go_simp
  · rw [decide_eq_false e]
    have ef : f.toList = f'.toList → f = f' := str_inj
    simp only [HD.mk.injEq] at e
    go_simp
    intros
    simp_all
theorem Cls.blk {W : World} {g : Nat} {t : TypeId} {cs : Array Value} (h : Block W g t cs) (p : Cls W) (i : Nat) : p.W.cell? ⟨g, i, none⟩ = cs[i]? := (h.on p.h).cell i
end Go.Proofs.YtpncnkihfijmaaaGreatDoor
