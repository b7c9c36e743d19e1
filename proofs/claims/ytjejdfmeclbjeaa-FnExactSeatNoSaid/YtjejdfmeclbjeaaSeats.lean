/-
  seatsOf: all seats of a right flight, in the order of their numbers.
-/
import Derived.Test.YtjejdfmeclbjeaaSeatIn
import Derived.Test.YtjejdfmeclbjeaaOwnRow
namespace Go.Proofs.Ytjejdfmeclbjeaa
open Go.ChangeShapes Go.WideShapes Go.ChangeAt Go.RowKit Go.ChangeMaps
set_option linter.unusedSimpArgs false
set_option linter.unusedVariables false

/-- The cells of the first m seats of a flight of fc columns. -/
def seatsTo (fc : Nat) : Nat → List Value
  | 0 => []
  | m + 1 => seatsTo fc m ++ [.int .i64 ((m / fc + 1 : Nat) : Int), .int .i64 ((m % fc : Nat) : Int)]
theorem seatsTo_length (fc m : Nat) : (seatsTo fc m).length = m * 2 := by
  induction m with
  | zero => rfl
  | succ m ih => simp [seatsTo, ih]; omega
theorem seatsTo_at (fc : Nat) : ∀ (m i : Nat), i < m → (seatsTo fc m)[i * 2]? = some (.int .i64 ((i / fc + 1 : Nat) : Int)) ∧ (seatsTo fc m)[i * 2 + 1]? = some (.int .i64 ((i % fc : Nat) : Int))
  | 0, i, h => by omega
  | m + 1, i, h => by
    have hl := seatsTo_length fc m
    by_cases he : i = m
    · subst he
      rw [seatsTo, List.getElem?_append_right (by omega), List.getElem?_append_right (by omega), hl]
      have e1 : i * 2 - i * 2 = 0 := by omega
      have e2 : i * 2 + 1 - i * 2 = 1 := by omega
      rw [e1, e2]
      exact ⟨rfl, rfl⟩
    · obtain ⟨h1, h2⟩ := seatsTo_at fc m i (by omega)
      rw [seatsTo, List.getElem?_append_left (by omega), List.getElem?_append_left (by omega)]
      exact ⟨h1, h2⟩
theorem seatsTo_step {fc : Nat} (r c : Nat) (hc : c < fc) : seatsTo fc (r * fc + (c + 1)) = seatsTo fc (r * fc + c) ++ [.int .i64 ((r : Int) + 1), .int .i64 (c : Int)] := by
  have e1 : (r * fc + c) / fc = r := by rw [Nat.add_comm, Nat.add_mul_div_right _ _ (by omega), Nat.div_eq_of_lt hc, Nat.zero_add]
  have e2 : (r * fc + c) % fc = c := by rw [Nat.add_comm, Nat.add_mul_mod_self_right, Nat.mod_eq_of_lt hc]
  rw [← Nat.add_assoc, seatsTo, e1, e2]
  simp

theorem info_seat : (Try.prog.info? 33).map (fun i => (i.zero, i.size, i.bytes)) = some (some (.agg #[.int .i64 0, .int .i64 0]), 2, 16) := by kernel_rfl

set_option maxHeartbeats 1000000 in
theorem seatsOf_any (s : ByteArray) (fr fc : Nat) (w : World) (h1 : 1 ≤ fr) (h2 : fr ≤ 20) (h3 : 1 ≤ fc) (h4 : fc ≤ 6) :
    Calls Try.prog 29 #[flightV s fr fc] w fun e w' => (∃ v, e = .returned v ∧ w'.ownsRow w.heap.size 33 2 v (fr * fc) (seatsTo fc (fr * fc))) ∧ Below w.heap.size w w' := by
  have hm : fr * fc ≤ 120 := Nat.le_trans (Nat.mul_le_mul h2 h4) (by omega)
  have HM : Hid (((fr : Int) * (fc : Int)) = ((fr * fc : Nat) : Int)) := by simp [Hid]
  have hm0 : (0 : Int) ≤ (fr : Int) * (fc : Int) := Int.mul_nonneg (by omega) (by omega)
  have hm1 : (fr : Int) * (fc : Int) ≤ 120 := by rw [HM.out]; omega
  go_enter Try.func29, Try.ntmps29
  go_wp2_with (first | (refine wpList_make_room Try.underlying48 info_seat (by omega) (fr * fc) _ rfl rfl HM.out (by omega) ?_; intro v w1 hown hb1))
  have hz1 : w.heap.size + 1 ≤ w1.heap.size := by have := hb1.size; simpa using this
  have hB1 : Below w.heap.size w w1 := ((Below.refl _ _).alloc (Nat.le_refl _) _).trans (hb1.mono (by simp))
  have c1 := kc hb1 (b := w.heap.size) (i := 1) (v := .int .i64 fr) (by go_simp) (by simp)
  have c2 := kc hb1 (b := w.heap.size) (i := 2) (v := .int .i64 fc) (by go_simp) (by simp)
  simp only [World.size_alloc] at hown
  clear hb1 HM hm0 hm1 hm
  go_loopw [3, 4] (fun v r wr => ∃ k : Nat, k ≤ fr ∧ r = .int .i64 ((k : Int) + 1) ∧ wr.ownsRow (w.heap.size + 1) 33 2 v (k * fc) (seatsTo fc (k * fc)) ∧ Below w.heap.size w wr ∧ w.heap.size + 1 ≤ wr.heap.size ∧
      wr.cell? ⟨w.heap.size, 1, none⟩ = some (.int .i64 fr) ∧ wr.cell? ⟨w.heap.size, 2, none⟩ = some (.int .i64 fc)) (fun _ r _ => fr + 1 - (intOf r).toNat)
  case atStart => exact ⟨0, Nat.zero_le _, rfl, by simpa [seatsTo] using hown, hB1, hz1, c1, c2⟩
  case round =>
    obtain ⟨k, hk, rfl, hown, hB, hz, c1, c2⟩ := hrel
    by_cases hlt : k < fr
    · have hkf : k * fc ≤ 120 := Nat.le_trans (Nat.mul_le_mul (show k ≤ 20 by omega) h4) (by omega)
      go_wp2
      go_loopw [3, 5] (fun v c wr => ∃ j : Nat, j ≤ fc ∧ c = .int .i64 (j : Int) ∧ wr.ownsRow (w.heap.size + 1) 33 2 v (k * fc + j) (seatsTo fc (k * fc + j)) ∧ Below w.heap.size w wr ∧ w.heap.size + 1 ≤ wr.heap.size ∧
          wr.cell? ⟨w.heap.size, 1, none⟩ = some (.int .i64 fr) ∧ wr.cell? ⟨w.heap.size, 2, none⟩ = some (.int .i64 fc)) (fun _ c _ => fc - (intOf c).toNat)
      case atStart => exact ⟨0, Nat.zero_le _, rfl, by simpa using hown, hB, hz, c1, c2⟩
      case round =>
        obtain ⟨j, hj, rfl, hown, hB, hz, c1, c2⟩ := hrel
        by_cases hjt : j < fc
        · have HS := Lib.hid (seatsTo_step k j hjt)
          go_wp2_with (first | (refine wpList_append_elem Try.underlying48 info_seat rfl (by omega) (by omega) (w.heap.size + 1) _ _ _ rfl hown rfl rfl (by simp [Value.oneCell']) (by omega) hz ?_; intro v' w' hown' hb'))
          replace c1 := kc hb' c1 (by omega)
          replace c2 := kc hb' c2 (by omega)
          replace hB := hB.trans (hb'.mono (by omega))
          replace hz := Nat.le_trans hz hb'.size
          go_roundw
          case rel => exact ⟨j + 1, by omega, by go_num, by rw [HS.out]; exact hown', hB, hz, c1, c2⟩
          case measure => simp [intOf]; omega
        · obtain rfl : j = fc := by omega
          go_wp2
          go_roundw
          case rel => exact ⟨k + 1, by omega, by go_num, by rw [Nat.add_mul, Nat.one_mul]; exact hown, hB, hz, c1, c2⟩
          case measure => simp [intOf]; omega
    · obtain rfl : k = fr := by omega
      go_wp2
      go_ret
      exact ⟨⟨_, rfl, ownsRow_base hown (by omega)⟩, hB⟩
end Go.Proofs.Ytjejdfmeclbjeaa
