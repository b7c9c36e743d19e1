/-
  spec.Revoke: the walk.
-/
import Derived.Test.YtjgcanhaelabaaaDoorTokRev
namespace Go.Proofs.YtjgcanhaelabaaaDoor
open Go.ChangeShapes Go.WideShapes Go.ChangeAt Go.RowKit Go.ChangeMaps
set_option maxRecDepth 10000
set_option linter.unusedSimpArgs false
set_option linter.unusedVariables false

def RevRel (l : List TK) (no : Int) (w : World) (v i : Value) (wr : World) : Prop :=
  ∃ (k m : Nat) (A : Option Addr) (c : Nat), k ≤ l.length ∧ i = .int .i64 k ∧ v = .slice A m c ∧ m = (keepNo (l.take k) no).length ∧ m ≤ k ∧
    wr.ownsRow (w.heap.size + 1) 39 4 (.slice A m c) m (toksC (keepNo (l.take k) no)) ∧ Block wr w.heap.size 28 #[.slice none 0 0, .int .i64 0, .int .i64 0] ∧ Below w.heap.size w wr

set_option maxHeartbeats 4000000 in
theorem sRevoke_any (l : List TK) (A : Option Addr) (cap : Nat) (no : Int) (w : World) (hl : Lies w w.heap.size 4 A l.length (toksC l)) (hm : l.length ≤ 1099511627) :
    Calls Tryd.prog 16 #[.slice A l.length cap, .int .i64 no] w (ToksMade (revokeT l no) w) := by
  by_cases h400 : 400 < l.length
  · have HR := Lib.hid (revoke_big (no := no) h400)
    clear hl
    go_enter Tryd.func16, Tryd.ntmps16
    go_wp2
    refine bodyPost_ret (v := outV none 0 0 0 2) (by simp [results, Tryd.results16, go_sem]) rfl ?_
    exact toksMade_err HR.out rfl (by go_grown)
  have h400' : ¬ (400 : Int) < (l.length : Int) := by omega
  have HO : Hid (∀ W : World, Below w.heap.size w W → Calls Tryd.prog 20 #[.slice A l.length cap] W fun e w' => e = .returned (.bool (toksOkB l)) ∧ Below W.heap.size W w') := fun W hW => sTokensRight_any l A cap W (hl.on hW) hm
  cases ho : toksOkB l
  · rw [ho] at HO
    have HR := Lib.hid (revoke_form (no := no) h400 ho)
    clear hl ho
    go_enter Tryd.func16, Tryd.ntmps16
    go_wp2_with fail
    refine (HO.out _ (by go_grown)).mono ?_
    rintro e w1 ⟨rfl, hb1⟩
    have X1 := (Block.new w #[.slice none 0 0, .int .i64 0, .int .i64 0] 28).on hb1
    have hB : Below w.heap.size w w1 := ((Below.refl _ w).alloc (Nat.le_refl _) _).trans (hb1.mono (by simp))
    have q1 := X1.cell
    have f1 := X1.free
    have hlt := X1.lt
    clear hb1
    go_wp2_with fail
    refine bodyPost_ret (v := outV none 0 0 0 1) (by simp [results, Tryd.results16, go_sem, q1, f1, hlt, Nat.ne_of_lt hlt]) rfl ?_
    exact toksMade_err HR.out rfl (below_out hB (Nat.le_refl _) _ _ _)
  rw [ho] at HO
  have hlen := toks_len ho
  have HR1 : Hid ((keepNo l no).length = l.length → revokeT l no = ([], 0, 6)) := fun h => revoke_none h400 ho h
  have HR2 : Hid (¬ (keepNo l no).length = l.length → revokeT l no = (keepNo l no, 0, 0)) := fun h => revoke_one h400 ho h
  have HLB : Hid (∀ W : World, Below w.heap.size w W → Lies W w.heap.size 4 A l.length (toksC l)) := fun W hW => hl.below hW
  clear hl ho
  go_enter Tryd.func16, Tryd.ntmps16
  go_wp2_with fail
  refine (HO.out _ (by go_grown)).mono ?_
  rintro e w1 ⟨rfl, hb1⟩
  have X1 := (Block.new w #[.slice none 0 0, .int .i64 0, .int .i64 0] 28).on hb1
  have hB1 : Below w.heap.size w w1 := ((Below.refl _ w).alloc (Nat.le_refl _) _).trans (hb1.mono (by simp))
  have hz1 : w.heap.size + 1 ≤ w1.heap.size := X1.lt
  clear hb1
  go_wp2_with fail
  go_loopw [5, 6] (fun v i wr => RevRel l no w v i wr) (fun _ i _ => l.length - (intOf i).toNat)
  case atStart => exact ⟨0, 0, _, 0, Nat.zero_le _, rfl, rfl, rfl, Nat.le_refl _, by have := World.ownsRow_lit (base := w.heap.size + 1) (e := 39) (size := 4) w1 #[] 0 hz1 (by simp) rfl; simpa [toksC, keepNo] using this, X1.alloc _, hB1.alloc hB1.size _⟩
  case round =>
    obtain ⟨k, m, A5, c5, hk, rfl, rfl, hmk, hmm, hown, X, hB⟩ := hrel
    have hzr : w.heap.size + 1 ≤ wr.heap.size := X.lt
    by_cases hlt : k < l.length
    · obtain ⟨b, off, x, rfl, hlb, hx, c0, c1, c2, c3⟩ := (HLB.out wr hB).tok hlt
      have HK1 : Hid (x.n = no → keepNo (l.take (k + 1)) no = keepNo (l.take k) no) := fun h => keepNo_hit hx h
      have HK2 : Hid (¬ x.n = no → keepNo (l.take (k + 1)) no = keepNo (l.take k) no ++ [x]) := fun h => keepNo_miss hx h
      obtain ⟨xn, xh, xr, xt⟩ := x
      have HMK := Lib.hid hmk
      dsimp only at *
      clear hx hmk
      by_cases hn : xn = no
      · have HK := Lib.hid (HK1.out hn)
        subst hn
        go_wp2_with fail
        go_roundw
        case rel => exact ⟨k + 1, m, A5, c5, by omega, by go_num, rfl, by rw [HK.out]; exact HMK.out, by omega, by rw [HK.out]; exact hown, X, hB⟩
        case measure => simp [intOf]; omega
      · have hn' : (xn == no) = false := beq_eq_false_iff_ne.2 hn
        have HK := Lib.hid (HK2.out hn)
        clear HK1 HK2
        go_wp2_with (at_builtin; refine wpList_append_elem Tryd.underlying24 info_tok rfl (by decide) (by decide) (w.heap.size + 1) _ _ _ rfl hown rfl rfl (fun u hu => toksC_one [⟨xn, xh, xr, xt⟩] u (by simpa [toksC, tokC] using hu)) (by omega) (by omega) ?_; intro v2 w2 hown2 hb2; obtain ⟨A2, c2', rfl, -, -⟩ := own_form hown2)
        go_roundw
        case rel => exact ⟨k + 1, m + 1, A2, c2', by omega, by go_num, rfl, by rw [HK.out, HMK.out]; simp, by omega, by rw [HK.out]; simpa [toksC, tokC] using hown2, X.below hb2 (by omega), hB.trans (hb2.mono (by omega))⟩
        case measure => simp [intOf]; omega
    · obtain rfl : k = l.length := by omega
      rw [List.take_length] at hmk hown
      have q1 := X.cell
      have f1 := X.free
      have hltb := X.lt
      by_cases he : m = l.length
      · have HR := Lib.hid (HR1.out (by omega))
        have he' : ((m : Int) == (l.length : Int)) = true := by rw [he]; simp
        replace he := Lib.hid he
        replace hmk := Lib.hid hmk
        go_wp2_with fail
        refine bodyPost_ret (v := outV none 0 0 0 6) (by simp [results, Tryd.results16, go_sem, q1, f1, hltb, Nat.ne_of_lt hltb]) rfl ?_
        exact toksMade_err HR.out rfl (below_out hB (Nat.le_refl _) _ _ _)
      · have HR := Lib.hid (HR2.out (by omega))
        have he' : ((m : Int) == (l.length : Int)) = false := beq_eq_false_iff_ne.2 (by omega)
        replace hmk := Lib.hid hmk
        go_wp2_with fail
        refine bodyPost_ret (v := outV A5 m c5 0 0) (by simp [results, Tryd.results16, go_sem, q1, f1, hltb, Nat.ne_of_lt hltb]) rfl ?_
        exact toksMade_row HR.out (row_out hown (Nat.lt_succ_self _) _ _ _) hmk.out rfl rfl (below_out hB (Nat.le_refl _) _ _ _)
end Go.Proofs.YtjgcanhaelabaaaDoor
