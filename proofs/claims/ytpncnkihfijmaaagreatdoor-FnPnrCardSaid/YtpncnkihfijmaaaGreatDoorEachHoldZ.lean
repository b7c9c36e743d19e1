/-
  impl.eachHold: holds handed out in order, each with its place: for every loop body that keeps what lay below n₀.
-/
import Derived.RangeFuncNested
import Derived.RangeFuncBound
import Derived.RangeFuncCalls
import Derived.RangeFuncLeaves
import Derived.Shelf.Abstract
import Derived.Shelf.RegionOpen
import Derived.OwnWalkIn
import Derived.TacticsInMore
import Derived.LoopNIn
import Derived.LoopIn
import Derived.Test.YtpncnkihfijmaaaGreatDoorM1
namespace Go.Proofs.YtpncnkihfijmaaaGreatDoor
open Go.ChangeShapes Go.WideShapes Go.ChangeAt Go.RowKit Go.ChangeMaps
set_option maxRecDepth 10000
set_option linter.unusedSimpArgs false
set_option linter.unusedVariables false
attribute [local go_sem] Oper.semAt_some

def hAt (l : List HD) (j : Nat) : HD := (l[j]?).getD ⟨⟨#[]⟩, 0, 0⟩
theorem hAt_of {l : List HD} {j : Nat} {x : HD} (h : l[j]? = some x) : hAt l j = x := by rw [hAt, h]; rfl
theorem at_hAt {l : List HD} {j : Nat} (h : j < l.length) : l[j]? = some (hAt l j) := by rw [hAt, List.getElem?_eq_getElem h]; rfl
/-- A place, as the two values that yield is handed: the place, and what stands there. -/
def encP (l : List HD) (x : Fin l.length) : Array Value := #[.int .i64 (x.1 : Int), holdV (hAt l x.1).f (hAt l x.1).r (hAt l x.1).c]
/-- The first k places, in order. -/
def FirstK {m : Nat} (k : Nat) (pre : List (Fin m)) : Prop := pre.map (·.1) = List.range k
theorem FirstK.snoc {m k : Nat} {pre : List (Fin m)} (h : FirstK k pre) (hk : k < m) : FirstK (k + 1) (pre ++ [⟨k, hk⟩]) := by
  unfold FirstK at h ⊢
  rw [List.map_append, h, List.range_succ]
  rfl
theorem FirstK.length {m k : Nat} {pre : List (Fin m)} (h : FirstK k pre) : pre.length = k := by
  have := congrArg List.length h
  simpa using this

set_option maxRecDepth 100000 in
set_option maxHeartbeats 2000000 in
theorem each1_in (F : Fence) (n : Nat) (h8 : F.fn 104) (hro : F.round = none) (hn : 1 ≤ n) (lp Bs n₀ cap : Nat) (A : Option Addr) (l : List HD) (hm : l.length ≤ 1099511627) (J Jx : List (Fin l.length) → World → Prop) (W : World)
    (hJ : AbidesFrom W.heap.size J)
    (hY : ∀ pre x W, J pre W → pre.length < l.length → YieldAt F (n - 1) Tryz.prog lp (encP l x) W fun e W' =>
      (e = .returned (.bool true) ∧ J (pre ++ [x]) W' ∧ Below n₀ W W') ∨ (e = .returned (.bool false) ∧ Jx (pre ++ [x]) W'))
    (hn₀ : n₀ ≤ W.heap.size) (hBs : W.cell? ⟨Bs, 0, none⟩ = some (.slice A l.length cap)) (hl : Lies W n₀ 3 A l.length (holdsC l)) (h0 : J [] W) :
    CallsIn F n Tryz.prog 104 #[.func (.yield lp) #[] #[], .pointer (some ⟨Bs, 0, none⟩)] W fun e W' => (∃ v, e = .returned v) ∧
      ((∃ ys, FirstK l.length ys ∧ J ys W') ∨ (∃ pre, (∃ k, k ≤ l.length ∧ FirstK k pre) ∧ Jx pre W')) := by
  refine callsIn_of_wp Tryz.func104 rfl h8 ?_ hro
  simp only [Tryz.ntmps104, List.size_toArray, List.length_cons, List.length_nil, Nat.reduceAdd, Nat.reduceSub, Array.replicate_succ, Array.replicate_zero, List.push_toArray, List.append_toArray, List.nil_append, List.cons_append]
  gi_wp2
  gi_loopw [7] (fun i wr => ∃ (k : Nat) (pre : List (Fin l.length)), k ≤ l.length ∧ i = .int .i64 k ∧ Hid (FirstK k pre) ∧ J pre wr ∧ Below n₀ W wr) (fun i _ => l.length - (intOf i).toNat)
  case atStart => exact ⟨0, [], Nat.zero_le _, rfl, rfl, h0, Below.refl _ _⟩
  case round =>
    obtain ⟨k, pre, hk, rfl, hpre, hJs, hnx⟩ := hrel
    by_cases hlt : k < l.length
    · obtain ⟨b, off, x, rfl, hlb, hx, c0, c1, c2⟩ := (hl.below hnx).hold hlt
      have hJa : J pre (wr.alloc (.cells #[.string x.f, .int .i64 x.r, .int .i64 x.c] 49)) := hJ _ _ _ none hJs (World.grownBy_alloc _ _ _) (fun r e => by cases e)
      obtain ⟨fn, tmps, assign, body, hy, hR⟩ := hY pre ⟨k, hlt⟩ _ hJa (by rw [hpre.out.length]; exact hlt)
      have HS : Hid (FirstK (k + 1) (pre ++ [⟨k, hlt⟩])) := hpre.out.snoc hlt
      have hxx := hAt_of hx
      have HK : Hid (∀ W3 : World, Below n₀ (wr.alloc (.cells #[.string x.f, .int .i64 x.r, .int .i64 x.c] 49)) W3 → Below n₀ W W3) := fun W3 h => (hnx.alloc (Nat.le_trans hn₀ hnx.size) _).trans h
      dsimp only [encP] at hy
      rw [hxx] at hy
      clear hx hl hY hJ hxx hpre
      gi_wp2
      refine hR.mono ?_
      rintro e W3 (⟨rfl, hJ3, hk3⟩ | ⟨rfl, hJx3⟩)
      · have hB3 := HK.out _ hk3
        clear hR hy hJa hJs hk3 hnx
        gi_wp2
        go_roundw
        case rel => exact ⟨k + 1, _, by omega, by simp, HS, hJ3, hB3⟩
        case measure => simp [intOf]; omega
      · gi_wp2
        refine bodyPost_ret (results_none rfl _ _ _) rfl ?_
        exact ⟨⟨_, rfl⟩, .inr ⟨_, ⟨k + 1, by omega, HS.out⟩, hJx3⟩⟩
    · obtain rfl : k = l.length := by omega
      clear hl hY hJ
      gi_wp2
      go_end0
      exact ⟨⟨_, rfl⟩, .inl ⟨_, hpre.out, hJs⟩⟩

theorem each_stops (F : Fence) (n : Nat) (h8 : F.fn 104) (hro : F.round = none) (hn : 1 ≤ n) (Bs n₀ cap : Nat) (A : Option Addr) (l : List HD) (hm : l.length ≤ 1099511627) (w : World) (hBs : Bs < w.heap.size) (hn₀ : n₀ ≤ w.heap.size)
    (hc : w.cell? ⟨Bs, 0, none⟩ = some (.slice A l.length cap)) (hl : Lies w n₀ 3 A l.length (holdsC l)) :
    SeqStopsK F n Tryz.prog 104 #[.pointer (some ⟨Bs, 0, none⟩)] (encP l) (Below n₀) (fun ys => FirstK l.length ys) (fun pre => ∃ k, k ≤ l.length ∧ FirstK k pre) l.length w := fun lp J Jx W hW hJ _ hY h0 =>
  each1_in F n h8 hro hn lp Bs n₀ cap A l hm J Jx W hJ hY (Nat.le_trans hn₀ hW.size) ((hW.cell (p := ⟨Bs, 0, none⟩) hBs).trans hc) (hl.below (hW.mono hn₀)) h0

set_option maxHeartbeats 1000000 in
theorem each_in (F : Fence) (n : Nat) (h6 : F.fn 66) (hro : F.round = none) (A : Option Addr) (m cap : Nat) (w : World) :
    CallsIn F n Tryz.prog 66 #[.slice A m cap] w fun e w' => e = .returned (.func (.func 104) #[] #[.pointer (some ⟨w.heap.size, 0, none⟩)]) ∧ w' = w.alloc (.cells #[.slice A m cap] 38) := by
  refine callsIn_of_wp Tryz.func66 rfl h6 ?_ hro
  simp only [Tryz.ntmps66, List.size_toArray, List.length_cons, List.length_nil, Nat.reduceAdd, Nat.reduceSub, Array.replicate_succ, Array.replicate_zero, List.push_toArray, List.append_toArray, List.nil_append, List.cons_append]
  gi_wp2
  go_ret
  exact ⟨rfl, rfl⟩
end Go.Proofs.YtpncnkihfijmaaaGreatDoor
