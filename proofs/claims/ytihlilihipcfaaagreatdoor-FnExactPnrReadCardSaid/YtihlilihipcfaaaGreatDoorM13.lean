/-
  Lists of texts, bookings, and what PnrRead gives: the laws' marks are written, and found again. What PnrRead gives: the laws' marks on it, and its equality. A law's row, lifted out of one walk, where the row lists package variables (L: whatever they are); the walk is told the world's shape.
-/
import Derived.Test.YtihlilihipcfaaaGreatDoorM12
import Derived.Test.YtihlilihipcfaaaGreatDoorM8
import Derived.Test.YtihlilihipcfaaaGreatDoorRows
import Derived.Test.YtihlilihipcfaaaGreatDoorM1
import Derived.HandedShaped
import Derived.ChangeVars
import Derived.LaidLaws
import Derived.LaidMore
import Derived.LaidHandle
import Derived.Stop.Joined
namespace Go.Proofs.YtihlilihipcfaaaGreatDoor
open Go.ChangeShapes Go.WideShapes Go.ChangeAt Go.RowKit Go.ChangeMaps
set_option maxRecDepth 10000
set_option linter.unusedSimpArgs false
set_option linter.unusedVariables false

/-- The marks of m texts, the first of which bears k. -/
def marksS (k : Nat) : Nat → List ByteArray
  | 0 => []
  | m + 1 => marksS k m ++ [markS (k + m)]
theorem marksS_length (k m : Nat) : (marksS k m).length = m := by
  induction m with
  | zero => rfl
  | succ m ih => simp [marksS, ih]
theorem marksS_at (k : Nat) : ∀ (n m : Nat), m < n → (marksS k n)[m]? = some (markS (k + m))
  | 0, m, h => by omega
  | n + 1, m, h => by
    have hl := marksS_length k n
    by_cases he : m = n
    · subst he
      rw [marksS, List.getElem?_append_right (by omega), hl, Nat.sub_self]
      rfl
    · rw [marksS, List.getElem?_append_left (by omega)]
      exact marksS_at k n m (by omega)
theorem marksSC_succ (k m : Nat) : strsC (marksS k (m + 1)) = strsC (marksS k m) ++ [.string (markS (k + m))] := by
  rw [marksS, strsC_append]; rfl

def MarkSRel (base k n cap : Nat) (A : Option Addr) (w : World) (x i : Value) (wr : World) : Prop :=
  ∃ (m q : Nat) (rest : List Value), m ≤ n ∧ i = .int .i64 m ∧ x = .int .i64 (q : Int) ∧ q = k + m ∧ rest.length = n - m ∧
    wr.ownsRow base 9 1 (.slice A n cap) n (strsC (marksS k m) ++ rest) ∧ w.grownBy wr (Value.slice A n cap).ownBlock

set_option maxHeartbeats 2000000 in
theorem markStringS_any (base k n cap : Nat) (A : Option Addr) (xs : List Value) (w : World) (hown : w.ownsRow base 9 1 (.slice A n cap) n xs) (hbase : base ≤ w.heap.size) (hk : 0 < k) (hk2 : k ≤ 1099511627) (hn : n ≤ 1099511627) :
    Calls Tryz.prog 106 #[.slice A n cap, .int .i64 k] w fun e w' => e = .returned (.int .i64 ((k + n : Nat) : Int)) ∧ w'.ownsRow base 9 1 (.slice A n cap) n (strsC (marksS k n)) ∧ w.grownBy w' (Value.slice A n cap).ownBlock := by
  have HK : Hid (∀ q : Nat, q = k + n → Value.int .i64 (q : Int) = .int .i64 ((k + n : Nat) : Int)) := fun q h => by rw [h]
  generalize ((k + n : Nat) : Int) = R at *
  go_enter Tryz.func106, Tryz.ntmps106
  go_wp2
  go_loopw [1, 5] (fun x i wr => MarkSRel base k n cap A w x i wr) (fun _ i _ => n - (intOf i).toNat)
  case atStart => exact ⟨0, k, xs, Nat.zero_le _, rfl, rfl, rfl, by simpa using hown.1, by simpa [marksS, strsC] using hown, World.grownBy.refl _ _⟩
  case round =>
    obtain ⟨m, q, rest, hm, rfl, rfl, hq, hrl, hown, hg⟩ := hrel
    have HQ := Lib.hid hq
    by_cases hlt : m < n
    · obtain ⟨g, cap', hv, hbg, _, _, hglt, _⟩ := row_at hown (by omega)
      injection hv with hv _ hv2
      subst hv
      clear hv2
      have hq1 : q ≤ 10995116270 := by omega
      have hq0 : 0 < q := by omega
      have HM : Hid (∀ W : World, Calls Tryz.prog 128 #[.int .i64 q] W fun e w' => e = .returned (.string (markS q)) ∧ Below W.heap.size W w') := fun W => markText_any q W hq0 (by omega)
      have HS : Hid (strsC (marksS k (m + 1)) = strsC (marksS k m) ++ [.string (markS q)]) := by
        rw [Hid, marksSC_succ, HQ.out]
      have hTL : (strsC (marksS k m)).length = m := by rw [strsC_length, marksS_length]
      have H1 := Lib.hid (set_one (strsC (marksS k m)) rest m hTL (by omega) (.string (markS q)))
      have HL := Lib.hid hown.1
      generalize strsC (marksS k m) = X at *
      generalize markS q = S at *
      clear hTL hq
      go_wp2_with fail
      refine (HM.out _).mono ?_
      rintro e w2 ⟨rfl, hb2⟩
      have hown2 := ownsRow_below hown hb2
      have f0 := hown2.frozenAt m
      have hlen := HL.out
      obtain ⟨u0, d0⟩ : ∃ u, w2.cell? ⟨g, m, none⟩ = some u := ⟨_, (hown2.cellAt m (by omega)).trans (List.getElem?_eq_getElem (by omega))⟩
      have s1 := hown2.stored m (.string S)
      have hown3 := s1.1
      rw [H1.out] at hown3
      have HO := Lib.hid hown3
      have hg3 := Lib.hid (grown_trans (grown_trans hg (grown_of_below hb2 _)) s1.2)
      clear hown hown2 hown3 hlen hb2 hg s1
      go_wp2_with fail
      go_roundw
      case rel => exact ⟨m + 1, q + 1, rest.drop 1, by omega, by go_num, by go_num, by have := HQ.out; omega, by simp; omega, by rw [HS.out]; exact HO.out, hg3.out⟩
      case measure => simp [intOf]; omega
    · obtain rfl : m = n := by omega
      obtain rfl : rest = [] := List.eq_nil_of_length_eq_zero (by omega)
      rw [List.append_nil] at hown
      have HV := Lib.hid (HK.out q hq)
      clear hq
      go_wp2
      go_ret
      exact ⟨congrArg Ending.returned HV.out, hown, hg⟩

set_option maxHeartbeats 2000000 in
theorem heldStringS_any (k n cap : Nat) (A : Option Addr) (w : World) (hl : Lies w w.heap.size 1 A n (strsC (marksS k n))) (hk : 0 < k) (hk2 : k ≤ 1099511627) (hn : n ≤ 1099511627) :
    Calls Tryz.prog 108 #[.slice A n cap, .int .i64 k] w fun e w' => e = .returned (.int .i64 ((k + n : Nat) : Int)) ∧ Below w.heap.size w w' := by
  have HK : Hid (∀ q : Nat, q = k + n → Value.int .i64 (q : Int) = .int .i64 ((k + n : Nat) : Int)) := fun q h => by rw [h]
  generalize ((k + n : Nat) : Int) = R at *
  go_enter Tryz.func108, Tryz.ntmps108
  go_wp2
  go_loopw [1, 5] (fun x i wr => ∃ (m q : Nat), m ≤ n ∧ i = .int .i64 m ∧ x = .int .i64 (q : Int) ∧ Hid (q = k + m) ∧ Below w.heap.size w wr) (fun _ i _ => n - (intOf i).toNat)
  case atStart => exact ⟨0, k, Nat.zero_le _, rfl, rfl, rfl, Below.refl _ _⟩
  case round =>
    obtain ⟨m, q, hm, rfl, rfl, HQ, hB⟩ := hrel
    have hq := HQ.out
    by_cases hlt : m < n
    · obtain ⟨b, off, x, rfl, hlb, hx, c0⟩ := (hl.below hB).str hlt
      obtain rfl := Option.some.inj (hx.symm.trans (marksS_at k n m hlt))
      have hq1 : q ≤ 10995116270 := by omega
      have hq0 : 0 < q := by omega
      have HM : Hid (∀ W : World, Calls Tryz.prog 128 #[.int .i64 q] W fun e w' => e = .returned (.string (markS q)) ∧ Below W.heap.size W w') := fun W => markText_any q W hq0 (by omega)
      rw [← hq] at c0
      generalize markS q = S at *
      have hz := hB.size
      have hBd := hB.drew
      clear hx hl hq
      go_wp2_with fail
      go_region_held3 (fun W => W.cell? ⟨b, off + m, none⟩ = some (.string S) ∧ Below w.heap.size w W ∧ w.heap.size ≤ W.heap.size)
        (first | (go_keep; done) | (go_split_ands; exact ⟨kc hb (by assumption) (by omega), bstep hb (by assumption) (by omega), zstep hb (by assumption)⟩))
        (first | (go_at_call 128; refine (HM.out _).mono ?_; rintro e w' ⟨rfl, hb⟩))
      clear c0 hB hz hBd
      rename_i hHeld
      obtain ⟨c0, hB, hz⟩ := hHeld
      go_wp2_with fail
      go_roundw
      case rel => exact ⟨m + 1, q + 1, by omega, by go_num, by go_num, by have := HQ.out; show _ = _; omega, hB⟩
      case measure => simp [intOf]; omega
    · obtain rfl : m = n := by omega
      have HV := Lib.hid (HK.out q hq)
      clear hq hl
      go_wp2
      go_ret
      exact ⟨congrArg Ending.returned HV.out, hB⟩
end Go.Proofs.YtihlilihipcfaaaGreatDoor
namespace Go.Proofs.YtihlilihipcfaaaGreatDoor
open Go.ChangeShapes Go.WideShapes Go.ChangeAt Go.RowKit Go.ChangeMaps
set_option maxRecDepth 10000
set_option linter.unusedSimpArgs false
set_option linter.unusedVariables false

set_option maxHeartbeats 1000000 in
theorem eqPnrOut_same (p : PD) (code : Int) (A1 : Option Addr) (c1 : Nat) (A2 : Option Addr) (c2 : Nat) (B1 : Option Addr) (d1 : Nat) (B2 : Option Addr) (d2 : Nat) (w : World) (hl : PLies w w.heap.size p A1 A2) (hl' : PLies w w.heap.size p B1 B2) (hn : p.names.length ≤ 1099511627) (hh : p.holds.length ≤ 1099511627) :
    Calls Tryz.prog 18 #[outPV p A1 c1 A2 c2 code, outPV p B1 d1 B2 d2 code] w fun e w' => e = .returned (.bool true) ∧ Below w.heap.size w w' := by
  have HE : Hid (∀ W : World, Below w.heap.size w W → Calls Tryz.prog 64 #[pdV p A1 c1 A2 c2, pdV p B1 d1 B2 d2] W fun e w' => e = .returned (.bool true) ∧ Below W.heap.size W w') := fun W hW => eqPnr_same p A1 c1 A2 c2 B1 d1 B2 d2 W (hl.on hW) (hl'.on hW) hn hh
  clear hl hl' hn hh
  obtain ⟨ph, pl, po, ns, hs, pb, pf⟩ := p
  dsimp only [pdV] at *
  go_enter Tryz.func18, Tryz.ntmps18
  go_wp2_with fail
  refine (HE.out _ (by go_grown)).mono ?_
  rintro e w1 ⟨rfl, hb1⟩
  have hB : Below w.heap.size w w1 := Below.trans (by go_grown) (hb1.mono (by simp; omega))
  have a7 := kc hb1 (b := w.heap.size) (i := 7) (v := .int .i64 code) (by go_simp) (by simp; omega)
  have b7 := kc hb1 (b := w.heap.size + 1) (i := 7) (v := .int .i64 code) (by go_simp) (by simp)
  clear hb1
  go_wp2_with fail
  go_ret
  exact ⟨rfl, hB⟩

/-- Marks on a booking's lists: two rows turned, and new blocks. -/
def Marked (w : World) (r1 r2 : Option Nat) (w' : World) : Prop := ∃ wm, w.grownBy wm r1 ∧ wm.grownBy w' r2
def MarkEnd (k n m b1 b2 : Nat) (A1 : Option Addr) (c1 : Nat) (A2 : Option Addr) (c2 : Nat) (w : World) (e : Ending) (w' : World) : Prop :=
  e = .returned (.int .i64 ((k + n + 3 * m : Nat) : Int)) ∧ w'.ownsRow b1 9 1 (.slice A1 n c1) n (strsC (marksS k n)) ∧ w'.ownsRow b2 51 3 (.slice A2 m c2) m (holdsC (marksL (k + n) m)) ∧
    Marked w (Value.slice A1 n c1).ownBlock (Value.slice A2 m c2).ownBlock w'
theorem grown_pre {a b c : World} {row : Option Nat} (h : Below a.heap.size a b) (k : b.grownBy c row) : a.grownBy c row := grown_trans (grown_of_below h row) k

set_option maxHeartbeats 1000000 in
theorem markPnr_any (h l o : Int) (b : Bool) (f : Int) (k n m b1 b2 : Nat) (A1 : Option Addr) (c1 : Nat) (A2 : Option Addr) (c2 : Nat) (xs ys : List Value) (w : World) (h1 : w.ownsRow b1 9 1 (.slice A1 n c1) n xs) (h2 : w.ownsRow b2 51 3 (.slice A2 m c2) m ys)
    (hb1 : b1 ≤ w.heap.size) (hb2 : b2 ≤ w.heap.size) (hk : 0 < k) (hk2 : k ≤ 1000) (hn : n ≤ 1000000) (hm : m ≤ 1000000) :
    Calls Tryz.prog 65 #[pnrV h l o n A1 c1 m A2 c2 b f, .int .i64 k] w (MarkEnd k n m b1 b2 A1 c1 A2 c2 w) := by
  have HM1 : Hid (∀ W : World, W.ownsRow b1 9 1 (.slice A1 n c1) n xs → b1 ≤ W.heap.size → Calls Tryz.prog 106 #[.slice A1 n c1, .int .i64 k] W fun e w' => e = .returned (.int .i64 ((k + n : Nat) : Int)) ∧ w'.ownsRow b1 9 1 (.slice A1 n c1) n (strsC (marksS k n)) ∧ W.grownBy w' (Value.slice A1 n c1).ownBlock) :=
    fun W hW hB => markStringS_any b1 k n c1 A1 xs W hW hB hk (by omega) (by omega)
  have HM2 : Hid (∀ W : World, W.ownsRow b2 51 3 (.slice A2 m c2) m ys → b2 ≤ W.heap.size → Calls Tryz.prog 107 #[.slice A2 m c2, .int .i64 ((k + n : Nat) : Int)] W fun e w' => e = .returned (.int .i64 ((k + n + 3 * m : Nat) : Int)) ∧ w'.ownsRow b2 51 3 (.slice A2 m c2) m (holdsC (marksL (k + n) m)) ∧ W.grownBy w' (Value.slice A2 m c2).ownBlock) :=
    fun W hW hB => markHoldS_any b2 (k + n) m c2 A2 ys W hW hB (by omega) (by omega) (by omega)
  have X0 : Block (w.alloc (.cells #[.int .i64 h, .int .i64 l, .int .i64 o, .slice A1 n c1, .slice A2 m c2, .bool b, .int .i64 f] 40)) w.heap.size 40 #[.int .i64 h, .int .i64 l, .int .i64 o, .slice A1 n c1, .slice A2 m c2, .bool b, .int .i64 f] := Block.new w _ _
  have h1' := h1.alloc (.cells #[.int .i64 h, .int .i64 l, .int .i64 o, .slice A1 n c1, .slice A2 m c2, .bool b, .int .i64 f] 40)
  have h2' := h2.alloc (.cells #[.int .i64 h, .int .i64 l, .int .i64 o, .slice A1 n c1, .slice A2 m c2, .bool b, .int .i64 f] 40)
  unfold MarkEnd
  generalize ((k + n + 3 * m : Nat) : Int) = R2 at *
  generalize ((k + n : Nat) : Int) = R1 at *
  go_enter Tryz.func65, Tryz.ntmps65
  go_wp2_with fail
  refine (HM1.out _ h1' (by simp; omega)).mono ?_
  rintro e w1 ⟨rfl, r1, g1⟩
  have X1 := X0.kept g1 (fun e => own_not_block X0 (by decide) h1' e.symm)
  have r2 := h2'.kept g1 (own_apart (by decide) h2' h1')
  have x4 := X1.cell 4
  have hz1 : w.heap.size + 1 ≤ w1.heap.size := by have := g1.size; simpa using this
  clear X0 h1' h2'
  go_wp2_with fail
  refine (HM2.out _ r2 (by omega)).mono ?_
  rintro e w2 ⟨rfl, s2, g2⟩
  have s1 := r1.kept g2 (own_apart (by decide) r1 r2)
  have HG : Hid (Marked w (Value.slice A1 n c1).ownBlock (Value.slice A2 m c2).ownBlock w2) := ⟨w1, grown_pre ((Below.refl _ w).alloc (Nat.le_refl _) _) g1, g2⟩
  clear g1 g2 X1 r2 x4
  go_wp2_with fail
  go_ret
  exact ⟨rfl, s1, s2, HG.out⟩

set_option maxHeartbeats 1000000 in
theorem markPnrOut_any (h l o : Int) (b : Bool) (f code : Int) (k n m b1 b2 : Nat) (A1 : Option Addr) (c1 : Nat) (A2 : Option Addr) (c2 : Nat) (xs ys : List Value) (w : World) (h1 : w.ownsRow b1 9 1 (.slice A1 n c1) n xs) (h2 : w.ownsRow b2 51 3 (.slice A2 m c2) m ys)
    (hb1 : b1 ≤ w.heap.size) (hb2 : b2 ≤ w.heap.size) (hk : 0 < k) (hk2 : k ≤ 1000) (hn : n ≤ 1000000) (hm : m ≤ 1000000) :
    Calls Tryz.prog 19 #[.agg #[.int .i64 h, .int .i64 l, .int .i64 o, .slice A1 n c1, .slice A2 m c2, .bool b, .int .i64 f, .int .i64 code], .int .i64 k] w (MarkEnd k n m b1 b2 A1 c1 A2 c2 w) := by
  have HM := Lib.hid (fun W hW1 hW2 hB1 hB2 => markPnr_any h l o b f k n m b1 b2 A1 c1 A2 c2 xs ys W hW1 hW2 hB1 hB2 hk hk2 hn hm)
  unfold MarkEnd at *
  have h1' := h1.alloc (.cells #[.int .i64 h, .int .i64 l, .int .i64 o, .slice A1 n c1, .slice A2 m c2, .bool b, .int .i64 f, .int .i64 code] 42)
  have h2' := h2.alloc (.cells #[.int .i64 h, .int .i64 l, .int .i64 o, .slice A1 n c1, .slice A2 m c2, .bool b, .int .i64 f, .int .i64 code] 42)
  generalize ((k + n + 3 * m : Nat) : Int) = R2 at *
  go_enter Tryz.func19, Tryz.ntmps19
  go_wp2_with fail
  refine (HM.out _ h1' h2' (by simp; omega) (by simp; omega)).mono ?_
  rintro e w1 ⟨rfl, r1, r2, wm, g1, g2⟩
  have HG : Hid (Marked w (Value.slice A1 n c1).ownBlock (Value.slice A2 m c2).ownBlock w1) := ⟨wm, grown_pre ((Below.refl _ w).alloc (Nat.le_refl _) _) g1, g2⟩
  clear g1 g2 h1' h2'
  go_wp2_with fail
  go_ret
  exact ⟨rfl, r1, r2, HG.out⟩

set_option maxHeartbeats 1000000 in
theorem heldPnr_any (h l o : Int) (b : Bool) (f : Int) (k n m : Nat) (A1 : Option Addr) (c1 : Nat) (A2 : Option Addr) (c2 : Nat) (w : World) (h1 : Lies w w.heap.size 1 A1 n (strsC (marksS k n))) (h2 : Lies w w.heap.size 3 A2 m (holdsC (marksL (k + n) m))) (hk : 0 < k) (hk2 : k ≤ 1000) (hn : n ≤ 1000000) (hm : m ≤ 1000000) :
    Calls Tryz.prog 66 #[pnrV h l o n A1 c1 m A2 c2 b f, .int .i64 k] w fun e w' => e = .returned (.int .i64 ((k + n + 3 * m : Nat) : Int)) ∧ Below w.heap.size w w' := by
  have HM1 : Hid (∀ W : World, Below w.heap.size w W → Calls Tryz.prog 108 #[.slice A1 n c1, .int .i64 k] W fun e w' => e = .returned (.int .i64 ((k + n : Nat) : Int)) ∧ Below W.heap.size W w') := fun W hW => heldStringS_any k n c1 A1 W (h1.on hW) hk (by omega) (by omega)
  have HM2 : Hid (∀ W : World, Below w.heap.size w W → Calls Tryz.prog 109 #[.slice A2 m c2, .int .i64 ((k + n : Nat) : Int)] W fun e w' => e = .returned (.int .i64 ((k + n + 3 * m : Nat) : Int)) ∧ Below W.heap.size W w') := fun W hW => heldHoldS_any (k + n) m c2 A2 W (h2.on hW) (by omega) (by omega) (by omega)
  have hp1 : ¬ ((k + n : Nat) : Int) < 0 := by omega
  have hp2 : ¬ ((k + n + 3 * m : Nat) : Int) < 0 := by omega
  generalize ((k + n + 3 * m : Nat) : Int) = R2 at *
  generalize ((k + n : Nat) : Int) = R1 at *
  clear h1 h2
  go_enter Tryz.func66, Tryz.ntmps66
  go_wp2_with fail
  refine (HM1.out _ (by go_grown)).mono ?_
  rintro e w1 ⟨rfl, hb1⟩
  have hB : Below w.heap.size w w1 := Below.trans (by go_grown) (hb1.mono (by simp))
  have a4 := kc hb1 (b := w.heap.size) (i := 4) (v := .slice A2 m c2) (by go_simp) (by simp)
  clear hb1
  go_wp2_with fail
  refine (HM2.out _ hB).mono ?_
  rintro e w2 ⟨rfl, hb2⟩
  have hB2 := hB.trans (hb2.mono hB.size)
  clear hb2 hB a4
  go_wp2_with fail
  go_ret
  exact ⟨rfl, hB2⟩

set_option maxHeartbeats 1000000 in
theorem heldPnrOut_any (h l o : Int) (b : Bool) (f code : Int) (k n m : Nat) (A1 : Option Addr) (c1 : Nat) (A2 : Option Addr) (c2 : Nat) (w : World) (h1 : Lies w w.heap.size 1 A1 n (strsC (marksS k n))) (h2 : Lies w w.heap.size 3 A2 m (holdsC (marksL (k + n) m))) (hk : 0 < k) (hk2 : k ≤ 1000) (hn : n ≤ 1000000) (hm : m ≤ 1000000) :
    Calls Tryz.prog 20 #[.agg #[.int .i64 h, .int .i64 l, .int .i64 o, .slice A1 n c1, .slice A2 m c2, .bool b, .int .i64 f, .int .i64 code], .int .i64 k] w fun e w' => e = .returned (.int .i64 ((k + n + 3 * m : Nat) : Int)) ∧ Below w.heap.size w w' := by
  have HM : Hid (∀ W : World, Below w.heap.size w W → Calls Tryz.prog 66 #[pnrV h l o n A1 c1 m A2 c2 b f, .int .i64 k] W fun e w' => e = .returned (.int .i64 ((k + n + 3 * m : Nat) : Int)) ∧ Below W.heap.size W w') := fun W hW => heldPnr_any h l o b f k n m A1 c1 A2 c2 W (h1.on hW) (h2.on hW) hk hk2 hn hm
  have hp2 : ¬ ((k + n + 3 * m : Nat) : Int) < 0 := by omega
  generalize ((k + n + 3 * m : Nat) : Int) = R2 at *
  clear h1 h2
  go_enter Tryz.func20, Tryz.ntmps20
  go_wp2_with fail
  refine (HM.out _ (by go_grown)).mono ?_
  rintro e w1 ⟨rfl, hb1⟩
  have hB : Below w.heap.size w w1 := Below.trans (by go_grown) (hb1.mono (by simp))
  clear hb1
  go_wp2_with fail
  go_ret
  exact ⟨rfl, hB⟩
end Go.Proofs.YtihlilihipcfaaaGreatDoor
namespace Go.Proofs.YtihlilihipcfaaaGreatDoor
open Go.ChangeShapes Go.WideShapes Go.ChangeAt Go.RowKit
set_option maxRecDepth 10000

set_option maxRecDepth 100000 in
/-- What a law's walk owes: it returns true; below the heap's old size nothing has turned. -/
theorem law_shaped (L : List (String × DataW Unit)) {f : FuncId} {fn : Func} {s : ChangeSpec} {tb : TypeId} {H : Type} {enc : TypeId × Value → H} {os : Os} (started : os.Started)
    (noInit : Tryz.checked.prog.inits.idxOf? f = none) (hfn : Tryz.checked.prog.funcs[f]? = some fn) (hvars : s.vars = []) (hres : fn.resultTypes = #[tb]) (htb : Tryz.prog.underlying tb = some .bool)
    (hread : ∀ t ∈ fn.params.toList, Tryz.prog.readableRec t = true ∧ t < Tryz.prog.types.size)
    (hs : ∀ ds : List (DataW H), ds.length = fn.params.toList.length → s.fn H ds = { results := [.lit (.bool true)], args := ds })
    (witness : ∃ (w : World) (tape : Tape) (i : Input), w.os = os ∧ (w.forCall tape i).Shaped Tryz.checked.prog ∧ i.vars = [] ∧ Input.okWide Tryz.checked.prog (w.forCall tape i) .any w.heap.size f i ∧
      ((s.pre enc Tryz.checked.prog fn [] false (w.forCall tape i).memory i.args ∧ laidMetH Tryz.prog L (w.forCall tape i).memory) ∧ sizedMet enc Tryz.checked.prog fn (OpenSpec.ofChange s) false (w.forCall tape i).memory i.args) ∧
      ({} : Assume).holds Tryz.checked.prog (lone (Frame.enter Tryz.checked.prog f i.args .normal) [] (w.forCall tape i)))
    (walk : ∀ (W : World) (base : Nat) (args : Array Value) (ds : List (DataW H)) (p : List MemPlace), (∀ (j : Nat) t v, fn.params[j]? = some t → args[j]? = some v → Value.okWide Tryz.prog W .any base t v) →
      DataW.TrodAll enc Tryz.prog W 0 (fun _ => true) true fn.params.toList args.toList ds p → (∀ x ∈ p, x.block < W.heap.size) →
      (DataW.weightsEach Tryz.prog fn.params.toList ds).all (· ≤ reachBytes) = true → laidMetH Tryz.prog L W → W.ShapedOpen Tryz.prog →
      Calls Tryz.prog f args W fun e W' => Holds e W W') :
    ReturnsInHanded {} Tryz.checked os f .any (fun w args => (s.pre enc Tryz.checked.prog fn [] false w args ∧ laidMetH Tryz.prog L w) ∧ sizedMet enc Tryz.checked.prog fn (OpenSpec.ofChange s) false w args)
      (s.post enc Tryz.checked.prog fn false true false false) := by
  refine returnsInHanded_of_calls own started noInit witness ?_
  intro w tape inp _ hsh _ hok hpre _
  obtain ⟨_, _, _, fn', hfn', _, _, _, _, hval⟩ := hok
  have e : fn' = fn := Option.some.inj (hfn'.symm.trans hfn)
  subst e
  obtain ⟨⟨⟨ds, gs, before, hw, _⟩, hx⟩, hz⟩ := hpre
  have hwt : (DataW.weightsEach Tryz.checked.prog (fn'.params.toList ++ s.plain.varTypes Tryz.checked.prog) (ds ++ gs)).all (· ≤ reachBytes) = true := hz.weights hw
  have hW := DataW.Whole.of_heap (w' := w.forCall tape inp) (by rfl) hw
  have hL := hx.of_heap (w' := w.forCall tape inp) (by rfl)
  suffices hS : Calls Tryz.prog f inp.args (w.forCall tape inp) (fun e W' => ∃ v, e = .returned v ∧ s.post enc Tryz.checked.prog fn' false true false false (w.forCall tape inp) inp.args v W') by
    refine hS.mono fun e W' ⟨v, he, hp⟩ => ?_
    subst he
    exact ChangeSpec.post_blind hp
  generalize w.forCall tape inp = W at *
  generalize inp.args = args at *
  have hW' := hW
  obtain ⟨p, q, hA, hV, rfl, hfz, hnd⟩ := hW
  have hV0 := hV
  rw [hvars] at hV
  obtain ⟨rfl, rfl⟩ := trodVars_none hV
  have hlt : ∀ x ∈ p, x.block < W.heap.size := fun x hx => hW'.lt x (by simpa using hx)
  have hwt' : (DataW.weightsEach Tryz.prog fn'.params.toList ds).all (· ≤ reachBytes) = true := by
    have e : s.plain.varTypes Tryz.checked.prog = [] := by simp [DataSpec.varTypes, ChangeSpec.plain, hvars]
    rw [e, List.append_nil, List.append_nil] at hwt
    exact hwt
  refine (walk W _ args ds p hval hA hlt hwt' hL hsh).mono fun e W' ⟨he, hg⟩ => ?_
  subst he
  have hd := hs ds (trodAll_length _ _ _ _ hA)
  refine ⟨_, rfl, post_of_below (pa := p) (pv := []) hW' ?_ ?_ ?_ rfl hg ?_⟩
  · intro b sp hd'
    rw [List.append_nil, hd, hres]
    exact trodAll_cons_mk (shut_bool htb _) trodAll_mk0
  · intro sp hsp
    rw [List.append_nil, hd]
    exact trodAll_below laidOut hg _ _ _ _ hread hA hlt sp (fun x hx => hsp x (by simpa using hx))
  · intro sp _
    rw [List.append_nil, hd, hvars]
    rfl
  · exact ok_one hres rfl (okWide_bool_mk htb _)

end Go.Proofs.YtihlilihipcfaaaGreatDoor
