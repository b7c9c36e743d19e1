/-
  seatNumbers: the map of all seats' numbers; impl's SeatNo.
-/
import Derived.Test.YtjejdfmeclbjeaaSeatKey
namespace Go.Proofs.Ytjejdfmeclbjeaa
open Go.ChangeShapes Go.WideShapes Go.ChangeAt Go.RowKit Go.ChangeMaps Go.Maps
set_option linter.unusedSimpArgs false
set_option linter.unusedVariables false

set_option maxHeartbeats 1000000 in
theorem seatNumbers_any (s : ByteArray) (fr fc : Nat) (w : World) (h1 : 1 ≤ fr) (h2 : fr ≤ 20) (h3 : 1 ≤ fc) (h4 : fc ≤ 6) :
    Calls Try.prog 28 #[flightV s fr fc] w fun e w' => (∃ b D, e = .returned (.map (some b)) ∧ w'.ownsMap Try.prog 33 (plainElem Try.prog 2) b (fr * fc) D ∧ NumsTo D fc (fr * fc)) ∧ Below w.heap.size w w' := by
  have HG : Hid (∀ W : World, Calls Try.prog 29 #[flightV s fr fc] W fun e w' => (∃ v, e = .returned v ∧ w'.ownsRow W.heap.size 33 2 v (fr * fc) (seatsTo fc (fr * fc))) ∧ Below W.heap.size W w') := fun W => seatsOf_any s fr fc W (by omega) (by omega) (by omega) (by omega)
  have hm : fr * fc ≤ 120 := Nat.le_trans (Nat.mul_le_mul h2 h4) (by omega)
  have hm1 : 0 < fr * fc := Nat.mul_pos (by omega) (by omega)
  generalize fr * fc = M at *
  have hmk := fun (n : Int) (W : World) => run_makeMap_hint (P := Try.prog) 46 33 2 .i64 n Try.underlying46 W
  go_enter Try.func28, Try.ntmps28
  go_wp2_with fail
  refine (HG.out _).mono ?_
  rintro e w1 ⟨⟨v, rfl, hown⟩, hb1⟩
  obtain ⟨g, cap, rfl, hg, hcap, hcm, hgl, hcell⟩ := row_at hown hm1
  have HC := Lib.hid hcell
  have hz : w.heap.size + 1 ≤ w1.heap.size := by have := hb1.size; simpa using this
  have hB : Below w.heap.size w w1 := ((Below.refl _ _).alloc (Nat.le_refl _) _).trans (hb1.mono (by simp))
  unfold maxLen at hcm
  clear hcell hb1 hown
  go_wp2_with fail
  clear hmk
  go_loopw [14] (fun i wr => ∃ (k : Nat) (D : DataW Unit), k ≤ M ∧ i = .int .i64 (k : Int) ∧ wr.ownsMap Try.prog 33 (plainElem Try.prog 2) w1.heap.size k D ∧ NumsTo D fc k ∧ Below w1.heap.size w1 wr ∧ w1.heap.size < wr.heap.size) (fun i _ => M - (intOf i).toNat)
  case atStart => exact ⟨0, .map [], Nat.zero_le _, rfl, World.ownsMap_made _ _ _ _, NumsTo.none fc, (Below.refl _ _).alloc (Nat.le_refl _) _, by simp⟩
  case round =>
    obtain ⟨k, D, hk, rfl, hown, hD, hR, hlt⟩ := hrel
    by_cases hkM : k < M
    · obtain ⟨e0, e1⟩ := seatsTo_at fc M k hkM
      replace e0 := kc hR (HC.out _ _ e0) hgl
      replace e1 := kc hR (HC.out _ _ e1) hgl
      have hmod := Nat.mod_le k fc
      have HK := Lib.hid (keyOf_nth (fc := fc) (i := k) (by omega) (by omega))
      have HD := Lib.hid hD
      clear hD
      go_wp2_with (first
        | (at_mapUpdate; refine wpList_mapUpdate_own _ rfl _ _ _ 46 rfl 33 2 seatLaw Try.underlying46 _ w1.heap.size k D rfl (hown.alloc _) (by unfold maxLen; omega) _ _ _ rfl rfl HK.out _ [] (plainElem_int Try.underlying2 (wfN k (by omega))) ?_; intro w2 hown2 hgrow2))
      go_roundw
      case rel => exact ⟨k + 1, _, by omega, by go_num, hown2, HD.out.step (by omega), (hR.alloc (by omega) _).grown hgrow2 (by simp; omega) (by intro x hx; cases hx; exact Nat.le_refl _), by have := hgrow2.size; simp at this; omega⟩
      case measure => simp [intOf]; omega
    · obtain rfl : k = M := by omega
      go_wp2_with fail
      go_ret
      exact ⟨⟨_, D, rfl, hown, hD⟩, hB.trans (hR.mono (by omega))⟩

/-- .. and a look for one seat. -/
theorem seatNumbers_look (s : ByteArray) (fr fc : Nat) (r c : Int) (w : World) (h1 : 1 ≤ fr) (h2 : fr ≤ 20) (h3 : 1 ≤ fc) (h4 : fc ≤ 6) (r1 : 1 ≤ r) (r2 : r ≤ fr) (c1 : 0 ≤ c) (c2 : c < fc) :
    Calls Try.prog 28 #[flightV s fr fc] w fun e w' => (∃ b, e = .returned (.map (some b)) ∧ (Instr.lookup 46 (.map (some b)) (seatV r c) false).run Try.prog w' = .ok (.int .i64 ((r - 1) * fc + c)) w') ∧ Below w.heap.size w w' := by
  refine (seatNumbers_any s fr fc w h1 h2 h3 h4).mono ?_
  rintro e w' ⟨⟨b, D, he, hown, hD⟩, hb⟩
  refine ⟨⟨b, he, ?_⟩, hb⟩
  obtain ⟨x, hx⟩ := nat_of (show 0 ≤ r - 1 by omega)
  obtain ⟨y, rfl⟩ := nat_of c1
  obtain rfl : r = x + 1 := by omega
  have hy : y < fc := by omega
  have hle : x * fc + y < fr * fc := by
    have := Nat.mul_le_mul_right fc (show x + 1 ≤ fr by omega)
    rw [Nat.add_mul, Nat.one_mul] at this
    omega
  have hm : fr * fc ≤ 120 := Nat.le_trans (Nat.mul_le_mul h2 h4) (by omega)
  have e1 : (x * fc + y) / fc = x := by rw [Nat.add_comm, Nat.add_mul_div_right _ _ (by omega), Nat.div_eq_of_lt hy, Nat.zero_add]
  have e2 : (x * fc + y) % fc = y := by rw [Nat.add_comm, Nat.add_mul_mod_self_right, Nat.mod_eq_of_lt hy]
  have hkey := keyOf_nth (fc := fc) (i := x * fc + y) (by omega) (by omega)
  have hat := hD.2 _ hle
  obtain ⟨n, hrun, hn, _⟩ := hown.lookup_int seatLaw Try.underlying46 Try.underlying2 (zeroI64 w') hkey
  rw [hat] at hn
  rw [e1, e2] at hrun
  have en : n = ((x * fc + y : Nat) : Int) := by simpa using hn.symm
  rw [en] at hrun
  have e3 : ((x : Int) + 1 - 1) * (fc : Int) + (y : Int) = ((x * fc + y : Nat) : Int) := by simp
  rw [e3]
  simpa using hrun
end Go.Proofs.Ytjejdfmeclbjeaa
