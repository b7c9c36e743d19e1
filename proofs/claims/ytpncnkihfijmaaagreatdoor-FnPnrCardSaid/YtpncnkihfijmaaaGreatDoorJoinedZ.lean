/-
  impl.joined: the texts of a list, one behind the other.
-/
import Derived.Test.YtpncnkihfijmaaaGreatDoorM1
namespace Go.Proofs.YtpncnkihfijmaaaGreatDoor
open Go.ChangeShapes Go.WideShapes Go.ChangeAt Go.RowKit Go.ChangeMaps
set_option maxRecDepth 10000
set_option linter.unusedSimpArgs false
set_option linter.unusedVariables false

def catTo (xs : List ByteArray) (k : Nat) : List UInt8 := (xs.take k).flatMap fun s => s.data.toList
theorem catTo_succ (xs : List ByteArray) (k : Nat) (h : k < xs.length) : catTo xs (k + 1) = catTo xs k ++ xs[k].data.toList := by
  unfold catTo
  rw [List.take_succ_eq_append_getElem h, List.flatMap_append]
  simp only [List.flatMap_cons, List.flatMap_nil, List.append_nil]
theorem catTo_le (xs : List ByteArray) (k : Nat) : (catTo xs k).length ≤ (catTo xs xs.length).length := by
  rcases Nat.lt_or_ge k xs.length with h | h
  · have e : catTo xs xs.length = catTo xs k ++ (xs.drop k).flatMap fun s => s.data.toList := by
      unfold catTo
      rw [List.take_length, ← List.flatMap_append, List.take_append_drop]
    rw [e]; simp
  · unfold catTo
    rw [List.take_of_length_le h, List.take_length]
    exact Nat.le_refl _
theorem catTo_step (xs : List ByteArray) (k : Nat) (h : k < xs.length) : (catTo xs (k + 1)).length = (catTo xs k).length + xs[k].size := by
  rw [catTo_succ xs k h]; simp
theorem splice_cat (xs : List ByteArray) (k n : Nat) (h : k < xs.length) (hn : (catTo xs (k + 1)).length ≤ n) :
    splice (catTo xs k ++ List.replicate (n - (catTo xs k).length) 0) (catTo xs k).length xs[k].data.toList = catTo xs (k + 1) ++ List.replicate (n - (catTo xs (k + 1)).length) 0 := by
  have hl : xs[k].data.toList.length = xs[k].size := by simp
  rw [catTo_succ xs k h] at hn ⊢
  simp only [List.length_append] at hn ⊢
  unfold splice
  rw [List.take_left', List.drop_append]
  · simp
    rw [List.drop_eq_nil_of_le (by omega), List.nil_append, Nat.sub_sub]
  · rfl

theorem info_u8 : (Tryz.prog.info? 5).map (fun i => (i.zero, i.size, i.bytes)) = some (some (.int .u8 0), 1, 1) := by kernel_rfl

set_option maxHeartbeats 1000000 in
theorem joined_any (xs : List ByteArray) (g cap : Nat) (w : World) (hg : g < w.heap.size) (hc : ∀ k (h : k < xs.length), w.cell? ⟨g, k, none⟩ = some (.string xs[k])) (hcap : xs.length ≤ cap)
    (hn : (catTo xs xs.length).length ≤ 1099511627776) (hx : xs.length ≤ 1099511627776) :
    Calls Tryz.prog 68 #[.slice (some ⟨g, 0, none⟩) xs.length cap] w fun e w' => e = .returned (.string ⟨(catTo xs xs.length).toArray⟩) ∧ Below w.heap.size w w' := by
  have HC := Lib.hid hc
  clear hc
  have HN : Hid (∀ k, (catTo xs k).length ≤ (catTo xs xs.length).length) := catTo_le xs
  go_enter Tryz.func68, Tryz.ntmps68
  go_wp2
  go_loop [3, 12] (fun t i => ∃ k : Nat, k ≤ xs.length ∧ i = .int .i64 k ∧ t = .int .i64 ((catTo xs k).length : Int)) (fun _ i => xs.length - (intOf i).toNat)
  case atStart => exact ⟨0, by omega, rfl, rfl⟩
  case round =>
    obtain ⟨k, hk, rfl, rfl⟩ := hrel
    have h1 := HN.out k
    by_cases hlt : k < xs.length
    · have hcell := HC.out k hlt
      have HS := Lib.hid (catTo_step xs k hlt)
      have h2 := HN.out (k + 1)
      have h3 : (catTo xs k).length + xs[k].size ≤ 1099511627776 := by rw [← HS.out]; omega
      go_wp2
      go_round
      case rel => exact ⟨k + 1, by omega, by go_num, by rw [HS.out]; go_num⟩
      case measure => simp [intOf]; omega
    · obtain rfl : k = xs.length := by omega
      generalize hN : (catTo xs xs.length).length = n at *
      have HNN := Lib.hid hN
      clear hN
      go_wp2_with (refine wpList_make_bytes Tryz.underlying31 info_u8 w.heap.size n n rfl rfl rfl hn (Nat.le_refl _) ?_; intro w1 hb1 hbel1 hsz1)
      go_loopw [7, 25] (fun a i wr => ∃ k : Nat, k ≤ xs.length ∧ i = .int .i64 k ∧ a = .int .i64 ((catTo xs k).length : Int) ∧ Below w.heap.size w wr ∧ Hid (wr.heap[w.heap.size]? = some (.cells (bytesV (catTo xs k ++ List.replicate (n - (catTo xs k).length) 0)).toArray 5 (0, 0)))) (fun _ i _ => xs.length - (intOf i).toNat)
      case atStart => exact ⟨0, by omega, rfl, rfl, hbel1, by simpa [catTo] using hb1⟩
      case round =>
        obtain ⟨k, hk, rfl, rfl, hbel, hrow⟩ := hrel
        have h1 := HN.out k
        by_cases hlt : k < xs.length
        · have hcell := (hbel.cell (p := ⟨g, k, none⟩) hg).trans (HC.out k hlt)
          have HS := Lib.hid (catTo_step xs k hlt)
          have h2 := HN.out (k + 1)
          have h3 : (catTo xs k).length + xs[k].size ≤ n := by rw [← HS.out]; omega
          have HSP := Lib.hid (splice_cat xs k n hlt h2)
          go_wp2_with (refine wpList_copy_str Tryz.underlying31 info_u8 _ _ _ xs[k] rfl rfl w.heap.size (catTo xs k).length (catTo xs k ++ List.replicate (n - (catTo xs k).length) 0) 5 hrow ?_ ?_ ?_ w.heap.size w hbel (Nat.le_refl _) ?_; rotate_left 3; intro w2 hrow2 hbel2)
          · go_roundw
            case rel => exact ⟨k + 1, by omega, by go_num, by rw [HS.out]; go_num, hbel2, by rw [HSP.out] at hrow2; exact hrow2⟩
            case measure => simp [intOf]; omega
          · omega
          · intro h; omega
          · simp; omega
        · obtain rfl : k = xs.length := by omega
          have hown : OwnB wr w.heap.size 5 (.slice (some ⟨w.heap.size, 0, none⟩) n n) (catTo xs xs.length) :=
            ownB_of_row (by rw [HNN.out, Nat.sub_self] at hrow; simpa using hrow) (Nat.le_refl _) HNN.out hn
          go_wp2_with (refine wpList_str_own Tryz.underlying31 Tryz.underlying5 Tryz.underlying9 w.heap.size _ _ rfl hown ?_)
          go_ret
          exact ⟨rfl, hbel⟩

theorem joined_two (a b : ByteArray) (w : World) (e' : TypeId) (h : a.size + b.size ≤ 1099511627776) :
    Calls Tryz.prog 68 #[.slice (some ⟨w.heap.size, 0, none⟩) 2 2] (w.alloc (.cells #[.string a, .string b] e')) fun e w' => e = .returned (.string ⟨(a.data.toList ++ b.data.toList).toArray⟩) ∧ Below w.heap.size w w' := by
  have hc : catTo [a, b] [a, b].length = a.data.toList ++ b.data.toList := by simp [catTo]
  have hl : (a.data.toList ++ b.data.toList).length = a.size + b.size := by simp
  have := joined_any [a, b] w.heap.size 2 (w.alloc (.cells #[.string a, .string b] e')) (by simp) (fun k hk => by
    have e1 := cell_of_row _ w.heap.size k _ e' (0, 0) (heap_alloc_new w (.cells #[.string a, .string b] e'))
    rw [e1]
    match k, hk with
    | 0, _ => rfl
    | 1, _ => rfl) (by simp) (by rw [hc, hl]; exact h) (by simp)
  rw [hc] at this
  exact this.mono fun e w' ⟨h1, h2⟩ => ⟨h1, ((Below.refl w.heap.size w).alloc (Nat.le_refl _) _).trans (h2.mono (by simp))⟩
theorem joined_one (a : ByteArray) (w : World) (e' : TypeId) (h : a.size ≤ 1099511627776) :
    Calls Tryz.prog 68 #[.slice (some ⟨w.heap.size, 0, none⟩) 1 1] (w.alloc (.cells #[.string a] e')) fun e w' => e = .returned (.string a) ∧ Below w.heap.size w w' := by
  have hc : catTo [a] [a].length = a.data.toList := by simp [catTo]
  have hl : a.data.toList.length = a.size := by simp
  have := joined_any [a] w.heap.size 1 (w.alloc (.cells #[.string a] e')) (by simp) (fun k hk => by
    have e1 := cell_of_row _ w.heap.size k _ e' (0, 0) (heap_alloc_new w (.cells #[.string a] e'))
    rw [e1]
    match k, hk with
    | 0, _ => rfl) (by simp) (by rw [hc, hl]; exact h) (by simp)
  rw [hc] at this
  exact this.mono fun e w' ⟨h1, h2⟩ => ⟨h1, ((Below.refl w.heap.size w).alloc (Nat.le_refl _) _).trans (h2.mono (by simp))⟩
theorem joined_three (a b c : ByteArray) (w : World) (e' : TypeId) (h : a.size + b.size + c.size ≤ 1099511627776) :
    Calls Tryz.prog 68 #[.slice (some ⟨w.heap.size, 0, none⟩) 3 3] (w.alloc (.cells #[.string a, .string b, .string c] e')) fun e w' => e = .returned (.string ⟨(a.data.toList ++ (b.data.toList ++ c.data.toList)).toArray⟩) ∧ Below w.heap.size w w' := by
  have hc : catTo [a, b, c] [a, b, c].length = a.data.toList ++ (b.data.toList ++ c.data.toList) := by simp [catTo]
  have hl : (a.data.toList ++ (b.data.toList ++ c.data.toList)).length = a.size + b.size + c.size := by simp; omega
  have := joined_any [a, b, c] w.heap.size 3 (w.alloc (.cells #[.string a, .string b, .string c] e')) (by simp) (fun k hk => by
    have e1 := cell_of_row _ w.heap.size k _ e' (0, 0) (heap_alloc_new w (.cells #[.string a, .string b, .string c] e'))
    rw [e1]
    match k, hk with
    | 0, _ => rfl
    | 1, _ => rfl
    | 2, _ => rfl) (by simp) (by rw [hc, hl]; exact h) (by simp)
  rw [hc] at this
  exact this.mono fun e w' ⟨h1, h2⟩ => ⟨h1, ((Below.refl w.heap.size w).alloc (Nat.le_refl _) _).trans (h2.mono (by simp))⟩

end Go.Proofs.YtpncnkihfijmaaaGreatDoor
