/-
  Lists of tokens: the laws' marks are written, and found again; what was told, compared.
-/
import Derived.Test.YtjgcanhaelabaaaTokOut
namespace Go.Proofs.Ytjgcanhaelabaaa
open Go.ChangeShapes Go.WideShapes Go.ChangeAt Go.RowKit Go.ChangeMaps
set_option linter.unusedSimpArgs false
set_option linter.unusedVariables false

theorem grown_transT {a b c : World} {row : Option Nat} (h : a.grownBy b row) (k : b.grownBy c row) : a.grownBy c row :=
  ⟨k.os.trans h.os, k.tape.trans h.tape, k.output.trans h.output, Nat.le_trans h.size k.size, fun i hi hr => (k.block i (Nat.lt_of_lt_of_le hi h.size) hr).trans (h.block i hi hr)⟩

/-- The marks of m tokens, the first of which bears k. -/
def marksT (k : Nat) : Nat → List TK
  | 0 => []
  | m + 1 => marksT k m ++ [⟨((k + 4 * m : Nat) : Int), ((k + 4 * m + 1 : Nat) : Int), ((k + 4 * m + 2 : Nat) : Int), ((k + 4 * m + 3 : Nat) : Int)⟩]
theorem marksT_length (k m : Nat) : (marksT k m).length = m := by
  induction m with
  | zero => rfl
  | succ m ih => simp [marksT, ih]
theorem marksT_at (k : Nat) : ∀ (n m : Nat), m < n → (marksT k n)[m]? = some ⟨((k + 4 * m : Nat) : Int), ((k + 4 * m + 1 : Nat) : Int), ((k + 4 * m + 2 : Nat) : Int), ((k + 4 * m + 3 : Nat) : Int)⟩
  | 0, m, h => by omega
  | n + 1, m, h => by
    have hl := marksT_length k n
    by_cases he : m = n
    · subst he
      rw [marksT, List.getElem?_append_right (by omega), hl, Nat.sub_self]
      rfl
    · rw [marksT, List.getElem?_append_left (by omega)]
      exact marksT_at k n m (by omega)
theorem marksTC_succ (k m : Nat) : toksC (marksT k (m + 1)) = toksC (marksT k m) ++ [.int .i64 ((k + 4 * m : Nat) : Int), .int .i64 ((k + 4 * m + 1 : Nat) : Int), .int .i64 ((k + 4 * m + 2 : Nat) : Int), .int .i64 ((k + 4 * m + 3 : Nat) : Int)] := by
  rw [marksT, toksC_append]; rfl

def MarkTRel (base k n cap : Nat) (A : Option Addr) (w : World) (x i : Value) (wr : World) : Prop :=
  ∃ (m q : Nat) (rest : List Value), m ≤ n ∧ i = .int .i64 m ∧ x = .int .i64 (q : Int) ∧ q = k + 4 * m ∧ rest.length = (n - m) * 4 ∧
    wr.ownsRow base 39 4 (.slice A n cap) n (toksC (marksT k m) ++ rest) ∧ w.grownBy wr (Value.slice A n cap).ownBlock

set_option maxHeartbeats 2000000 in
theorem markTokenS_any (base k n cap : Nat) (A : Option Addr) (xs : List Value) (w : World) (hown : w.ownsRow base 39 4 (.slice A n cap) n xs) (hbase : base ≤ w.heap.size) (hk : 0 < k) (hk2 : k ≤ 1099511627) (hn : n ≤ 1099511627) :
    Calls Try.prog 15 #[.slice A n cap, .int .i64 k] w fun e w' => e = .returned (.int .i64 ((k + 4 * n : Nat) : Int)) ∧ w'.ownsRow base 39 4 (.slice A n cap) n (toksC (marksT k n)) ∧ w.grownBy w' (Value.slice A n cap).ownBlock := by
  have HK : Hid (∀ q : Nat, q = k + 4 * n → Value.int .i64 (q : Int) = .int .i64 ((k + 4 * n : Nat) : Int)) := fun q h => by rw [h]
  generalize ((k + 4 * n : Nat) : Int) = R at *
  go_enter Try.func15, Try.ntmps15
  go_wp2
  go_loopw [1, 5] (fun x i wr => MarkTRel base k n cap A w x i wr) (fun _ i _ => n - (intOf i).toNat)
  case atStart => exact ⟨0, k, xs, Nat.zero_le _, rfl, rfl, rfl, by simpa using hown.1, by simpa [marksT, toksC] using hown, World.grownBy.refl _ _⟩
  case round =>
    obtain ⟨m, q, rest, hm, rfl, rfl, hq, hrl, hown, hg⟩ := hrel
    have HQ := Lib.hid hq
    by_cases hlt : m < n
    · obtain ⟨g, cap', hv, hbg, _, _, hglt, _⟩ := row_at hown (by omega)
      injection hv with hv _ hv2
      subst hv
      clear hv2
      have hq1 : q ≤ 10995116270 := by omega
      have hq0 : 0 < q := by omega
      have HS : Hid (toksC (marksT k (m + 1)) = toksC (marksT k m) ++ [.int .i64 (q : Int), .int .i64 ((q : Int) + 1), .int .i64 ((q : Int) + 1 + 1), .int .i64 ((q : Int) + 1 + 1 + 1)]) := by
        rw [Hid, marksTC_succ, HQ.out]
        simp [Int.add_assoc]
      have hTL : (toksC (marksT k m)).length = m * 4 := by rw [toksC_length, marksT_length]
      have H3 := Lib.hid (set_four (toksC (marksT k m)) rest (m * 4) hTL (by omega) (.int .i64 (q : Int)) (.int .i64 ((q : Int) + 1)) (.int .i64 ((q : Int) + 1 + 1)) (.int .i64 ((q : Int) + 1 + 1 + 1)))
      have HL := Lib.hid hown.1
      generalize toksC (marksT k m) = X at *
      clear hTL hq
      have f0 := hown.frozenAt (m * 4)
      have f1 := hown.frozenAt (m * 4 + 1)
      have f2 := hown.frozenAt (m * 4 + 2)
      have f3 := hown.frozenAt (m * 4 + 3)
      have hlen := HL.out
      obtain ⟨u0, d0⟩ : ∃ u, wr.cell? ⟨g, m * 4, none⟩ = some u := ⟨_, (hown.cellAt (m * 4) (by omega)).trans (List.getElem?_eq_getElem (by omega))⟩
      obtain ⟨u1, d1⟩ : ∃ u, wr.cell? ⟨g, m * 4 + 1, none⟩ = some u := ⟨_, (hown.cellAt (m * 4 + 1) (by omega)).trans (List.getElem?_eq_getElem (by omega))⟩
      obtain ⟨u2, d2⟩ : ∃ u, wr.cell? ⟨g, m * 4 + 2, none⟩ = some u := ⟨_, (hown.cellAt (m * 4 + 2) (by omega)).trans (List.getElem?_eq_getElem (by omega))⟩
      obtain ⟨u3, d3⟩ : ∃ u, wr.cell? ⟨g, m * 4 + 3, none⟩ = some u := ⟨_, (hown.cellAt (m * 4 + 3) (by omega)).trans (List.getElem?_eq_getElem (by omega))⟩
      have s1 := hown.stored (m * 4) (.int .i64 (q : Int))
      have s2 := s1.1.stored (m * 4 + 1) (.int .i64 ((q : Int) + 1))
      have s3 := s2.1.stored (m * 4 + 2) (.int .i64 ((q : Int) + 1 + 1))
      have s4 := s3.1.stored (m * 4 + 3) (.int .i64 ((q : Int) + 1 + 1 + 1))
      have hown3 := s4.1
      rw [H3.out] at hown3
      have HO := Lib.hid hown3
      have hg3 := Lib.hid (grown_transT hg (grown_transT s1.2 (grown_transT s2.2 (grown_transT s3.2 s4.2))))
      clear hown hown3 hlen hg s1 s2 s3 s4
      go_wp2_with fail
      go_roundw
      case rel => exact ⟨m + 1, q + 4, rest.drop 4, by omega, by go_num, by go_num, by have := HQ.out; omega, by simp; omega, by rw [HS.out]; exact HO.out, hg3.out⟩
      case measure => simp [intOf]; omega
    · obtain rfl : m = n := by omega
      obtain rfl : rest = [] := List.eq_nil_of_length_eq_zero (by omega)
      rw [List.append_nil] at hown
      have HV := Lib.hid (HK.out q hq)
      clear hq
      go_wp2
      go_ret
      exact ⟨congrArg Ending.returned HV.out, hown, hg⟩

set_option maxHeartbeats 2000000 in
theorem heldTokenS_any (k n cap : Nat) (A : Option Addr) (w : World) (hl : Lies w w.heap.size 4 A n (toksC (marksT k n))) (hk : 0 < k) (hk2 : k ≤ 1099511627) (hn : n ≤ 1099511627) :
    Calls Try.prog 29 #[.slice A n cap, .int .i64 k] w fun e w' => e = .returned (.int .i64 ((k + 4 * n : Nat) : Int)) ∧ w = w' := by
  have HK : Hid (∀ q : Nat, q = k + 4 * n → Value.int .i64 (q : Int) = .int .i64 ((k + 4 * n : Nat) : Int)) := fun q h => by rw [h]
  generalize ((k + 4 * n : Nat) : Int) = R at *
  go_enter Try.func29, Try.ntmps29
  go_wp2
  go_loop [1, 5] (fun x i => ∃ (m q : Nat), m ≤ n ∧ i = .int .i64 m ∧ x = .int .i64 (q : Int) ∧ Hid (q = k + 4 * m)) (fun _ i => n - (intOf i).toNat)
  case atStart => exact ⟨0, k, Nat.zero_le _, rfl, rfl, rfl⟩
  case round =>
    obtain ⟨m, q, hm, rfl, rfl, HQ⟩ := hrel
    have hq := HQ.out
    by_cases hlt : m < n
    · obtain ⟨b, off, x, rfl, hlb, hx, c0, c1, c2, c3⟩ := hl.tok hlt
      obtain rfl := Option.some.inj (hx.symm.trans (marksT_at k n m hlt))
      have hq1 : q ≤ 10995116270 := by omega
      have hq0 : 0 < q := by omega
      have e0 : ((k + 4 * m : Nat) : Int) = (q : Int) := by omega
      have e1 : ((k + 4 * m + 1 : Nat) : Int) = (q : Int) + 1 := by omega
      have e2 : ((k + 4 * m + 2 : Nat) : Int) = (q : Int) + 1 + 1 := by omega
      have e3 : ((k + 4 * m + 3 : Nat) : Int) = (q : Int) + 1 + 1 + 1 := by omega
      dsimp only at c0 c1 c2 c3
      rw [e0] at c0
      rw [e1] at c1
      rw [e2] at c2
      rw [e3] at c3
      clear hx hl hq e0 e1 e2 e3
      go_wp2_with fail
      go_round
      case rel => exact ⟨m + 1, q + 4, by omega, by go_num, by go_num, by have := HQ.out; show _ = _; omega⟩
      case measure => simp [intOf]; omega
    · obtain rfl : m = n := by omega
      have HV := Lib.hid (HK.out q hq)
      clear hq hl
      go_wp2
      go_ret
      exact ⟨congrArg Ending.returned HV.out, rfl⟩

set_option maxHeartbeats 2000000 in
theorem eqTokensOut_same (l : List TK) (A B : Option Addr) (c d : Nat) (no code : Int) (w : World) (hl : Lies w w.heap.size 4 A l.length (toksC l)) (hl' : Lies w w.heap.size 4 B l.length (toksC l)) (hm : l.length ≤ 1099511627) :
    Calls Try.prog 14 #[outV A l.length c no code, outV B l.length d no code] w fun e w' => e = .returned (.bool true) ∧ Below w.heap.size w w' := by
  have HE : Hid (∀ W : World, Below w.heap.size w W → Calls Try.prog 11 #[.slice A l.length c, .slice B l.length d] W fun e w' => e = .returned (.bool true) ∧ Below W.heap.size W w') := fun W hW => eqTokenS_same l A B l.length c d W rfl (hl.on hW) (hl'.on hW) hm
  clear hl hl'
  go_enter Try.func14, Try.ntmps14
  go_wp2_with fail
  refine (HE.out _ (by go_grown)).mono ?_
  rintro e w1 ⟨rfl, hb1⟩
  have X1 := ((Block.new w #[.slice A l.length c, .int .i64 no, .int .i64 code] 30).alloc (.cells #[.slice B l.length d, .int .i64 no, .int .i64 code] 30)).on hb1
  have Y1 := (Block.new (w.alloc (.cells #[.slice A l.length c, .int .i64 no, .int .i64 code] 30)) #[.slice B l.length d, .int .i64 no, .int .i64 code] 30).on hb1
  simp only [World.size_alloc] at Y1
  have x1 := X1.cell
  have y1 := Y1.cell
  have hB : Below w.heap.size w w1 := (((Below.refl _ w).alloc (Nat.le_refl _) _).alloc (by simp) _).trans (hb1.mono (by simp; omega))
  clear hb1 X1 Y1
  go_wp2_with fail
  go_ret
  exact ⟨rfl, hB⟩

set_option maxHeartbeats 2000000 in
theorem markTokensOut_any (base n c : Nat) (A : Option Addr) (xs : List Value) (no code : Int) (w : World) (hown : w.ownsRow base 39 4 (.slice A n c) n xs) (hbase : base ≤ w.heap.size) (hn : n ≤ 1099511627) :
    Calls Try.prog 16 #[outV A n c no code, .int .i64 1] w fun e w' => e = .returned (.int .i64 ((1 + 4 * n : Nat) : Int)) ∧ w'.ownsRow base 39 4 (.slice A n c) n (toksC (marksT 1 n)) ∧ w.grownBy w' (Value.slice A n c).ownBlock := by
  have HM : Hid (Calls Try.prog 15 #[.slice A n c, .int .i64 1] (w.alloc (.cells #[.slice A n c, .int .i64 no, .int .i64 code] 30)) fun e w' => e = .returned (.int .i64 ((1 + 4 * n : Nat) : Int)) ∧ w'.ownsRow base 39 4 (.slice A n c) n (toksC (marksT 1 n)) ∧ (w.alloc (.cells #[.slice A n c, .int .i64 no, .int .i64 code] 30)).grownBy w' (Value.slice A n c).ownBlock) :=
    markTokenS_any base 1 n c A xs _ (hown.alloc _) (by simp; omega) (by omega) (by omega) hn
  clear hown
  generalize ((1 + 4 * n : Nat) : Int) = R at *
  go_enter Try.func16, Try.ntmps16
  go_wp2_with fail
  refine HM.out.mono ?_
  rintro e w1 ⟨rfl, h1, h2⟩
  go_wp2_with fail
  go_ret
  exact ⟨rfl, h1, grown_transT (grown_of_below ((Below.refl _ w).alloc (Nat.le_refl _) _) _) h2⟩

set_option maxHeartbeats 2000000 in
theorem heldTokensOut_any (n c : Nat) (A : Option Addr) (no code : Int) (w : World) (hl : Lies w w.heap.size 4 A n (toksC (marksT 1 n))) (hn : n ≤ 1099511627) :
    Calls Try.prog 17 #[outV A n c no code, .int .i64 1] w fun e w' => e = .returned (.int .i64 ((1 + 4 * n : Nat) : Int)) ∧ Below w.heap.size w w' := by
  have HM : Hid (∀ W, Below w.heap.size w W → Calls Try.prog 29 #[.slice A n c, .int .i64 1] W fun e w' => e = .returned (.int .i64 ((1 + 4 * n : Nat) : Int)) ∧ W = w') :=
    fun W hW => heldTokenS_any 1 n c A W (hl.on hW) (by omega) (by omega) hn
  have hp : ¬ (((1 + 4 * n : Nat) : Int) < 0) := by omega
  clear hl
  generalize ((1 + 4 * n : Nat) : Int) = R at *
  go_enter Try.func17, Try.ntmps17
  go_wp2_with fail
  refine (HM.out _ (by go_grown)).mono ?_
  rintro e w1 ⟨rfl, rfl⟩
  go_wp2_with fail
  go_ret
  exact ⟨rfl, by go_grown⟩
end Go.Proofs.Ytjgcanhaelabaaa
