/-
  The spec's draws: what Issue, Revoke, Shows and RoleMay are asked.
-/
import Derived.Test.YtjgcanhaelabaaaDoorDrawT2
namespace Go.Proofs.YtjgcanhaelabaaaDoor
open Go.ChangeShapes Go.WideShapes Go.ChangeAt Go.RowKit Go.ChangeMaps
set_option maxRecDepth 10000
set_option linter.unusedSimpArgs false
set_option linter.unusedVariables false

/-- Tokens of a draw, among the call's own. -/
def TokHere (w : World) (B : Option Addr) (cB : Nat) (L : List TK) (w' : World) : Prop := L.length ≤ 30 ∧ w'.ownsRow w.heap.size 39 4 (.slice B L.length cB) L.length (toksC L)

theorem tokHere_of {w w1 w2 w' : World} {B : Option Addr} {cB : Nat} {L : List TK} {A : Option Addr} {l : List UInt8} {c : Nat} (hb : Below w.heap.size w w1) (hB : SrcB A l c w.heap.size w1 w2) (h : L.length ≤ 30) (ho : w'.ownsRow w2.heap.size 39 4 (.slice B L.length cB) L.length (toksC L)) (hb2 : Below w.heap.size w2 w') :
    TokHere w B cB L w' ∧ Below w.heap.size w w' := ⟨⟨h, ownsRow_base ho (Nat.le_trans hb.size hB.2.2.1)⟩, hb.trans (hB.2.1.trans hb2)⟩

section
variable (A : Option Addr) (l : List UInt8) (c : Nat) (w : World)

set_option maxHeartbeats 4000000 in
theorem drawIssue_any (hl : Lies w w.heap.size 1 A l.length (bytesV l)) (hm : l.length ≤ maxLen) :
    Calls Tryd.prog 8 #[.slice A l.length c] w fun e w' => ∃ (L : List TK) (B : Option Addr) (cB : Nat) (h r t : Int), e = .returned (.tuple #[.slice B L.length cB, .int .i64 h, .int .i64 r, .int .i64 t]) ∧ TokHere w B cB L w' ∧ Below w.heap.size w w' := by
  have HN : Hid (∀ (W : World) (m : Int), SrcAt A l c w.heap.size W → m ≤ 1000000 → Calls Tryd.prog 28 #[.pointer (some ⟨w.heap.size, 0, none⟩), .int .i64 m] W fun e w' => (∃ r : Int, e = .returned (.int .i64 r) ∧ 0 ≤ r ∧ (r < m ∨ r = 0)) ∧ SrcAt A l c w.heap.size w' ∧ W.grownBy w' (some w.heap.size)) := fun W m h1 h2 => srcN_any A l c w.heap.size m W h1 hm h2
  have HO : Hid (∀ (W : World) (m : Int), SrcAt A l c w.heap.size W → m ≤ 1000000 → Calls Tryd.prog 29 #[.pointer (some ⟨w.heap.size, 0, none⟩), .int .i64 m] W fun e w' => (∃ b : Bool, e = .returned (.bool b)) ∧ SrcAt A l c w.heap.size w' ∧ W.grownBy w' (some w.heap.size)) := fun W m h1 h2 => srcOne_any A l c w.heap.size m W h1 hm h2
  have HE : Hid (∀ (W : World), SrcAt A l c w.heap.size W → Calls Tryd.prog 30 #[.pointer (some ⟨w.heap.size, 0, none⟩)] W fun e w' => (∃ r : Int, e = .returned (.int .i64 r) ∧ (Lit.int .i64 r).wf = true) ∧ SrcAt A l c w.heap.size w' ∧ W.grownBy w' (some w.heap.size)) := fun W h1 => srcEdge_any A l c w.heap.size W h1 hm
  have HT : Hid (∀ W : World, SrcAt A l c w.heap.size W → Calls Tryd.prog 31 #[.pointer (some ⟨w.heap.size, 0, none⟩)] W (TokGot w.heap.size W)) := fun W h1 => l04Tokens_any A l c w.heap.size W h1 hm
  have HS := Lib.hid (l01Source_any A l c w hl hm)
  clear hl
  go_enter Tryd.func8, Tryd.ntmps8
  go_wp2_with fail
  refine HS.out.mono ?_
  rintro e w1 ⟨rfl, hs1, hb1⟩
  have B1 := SrcB.start hs1
  clear hs1 HS
  go_wp2_with fail
  refine (HN.out _ 4 B1.1 (by omega)).mono ?_
  rintro e w2 ⟨⟨r1, rfl, a0, a1⟩, k1, k2⟩
  have B2 := B1.n k1 k2
  clear B1 k1 k2
  go_wp2_with fail
  refine (HN.out _ 3 B2.1 (by omega)).mono ?_
  rintro e w3 ⟨⟨r2, rfl, b0, b1⟩, k1, k2⟩
  have B3 := B2.n k1 k2
  clear B2 k1 k2
  go_wp2_with fail
  refine (HN.out _ 20 B3.1 (by omega)).mono ?_
  rintro e w4 ⟨⟨r3, rfl, d0, d1⟩, k1, k2⟩
  have B4 := B3.n k1 k2
  clear B3 k1 k2
  have hw1 : IntKind.i64.wrap (1 + r1) = 1 + r1 := IntWalk.i64_in _ (by omega)
  have hw2 : IntKind.i64.wrap (1 + r2) = 1 + r2 := IntWalk.i64_in _ (by omega)
  go_wp2_with fail
  refine (HO.out _ 6 B4.1 (by omega)).mono ?_
  rintro e w5 ⟨⟨b, rfl⟩, k1, k2⟩
  have B5 := B4.n k1 k2
  clear B4 k1 k2
  cases b
  · go_wp2_with fail
    refine (HT.out _ B5.1).mono ?_
    rintro e w9 ⟨⟨L, B, cB, rfl, hL, hR⟩, hb9⟩
    have HF := Lib.hid (tokHere_of hb1 B5 hL hR hb9)
    clear hb1 B5 hR hb9
    go_wp2_with fail
    refine bodyPost_ret (v := .tuple #[.slice B L.length cB, .int .i64 (1 + r1), .int .i64 (1 + r2), .int .i64 r3]) (by simp [results, Tryd.results8, go_sem]) rfl ?_
    exact ⟨L, B, cB, _, _, _, rfl, HF.out.1, HF.out.2⟩
  · clear a0 a1 b0 b1 d0 d1 hw1 hw2
    go_wp2_with fail
    refine (HN.out _ 6 B5.1 (by omega)).mono ?_
    rintro e w6 ⟨⟨r4, rfl, a0, a1⟩, k1, k2⟩
    have B6 := B5.n k1 k2
    clear B5 k1 k2
    go_wp2_with fail
    refine (HN.out _ 5 B6.1 (by omega)).mono ?_
    rintro e w7 ⟨⟨r5, rfl, b0, b1⟩, k1, k2⟩
    have B7 := B6.n k1 k2
    clear B6 k1 k2
    go_wp2_with fail
    refine (HE.out _ B7.1).mono ?_
    rintro e w8 ⟨⟨r6, rfl, d0⟩, k1, k2⟩
    have B8 := B7.n k1 k2
    clear B7 k1 k2
    go_wp2_with fail
    refine (HT.out _ B8.1).mono ?_
    rintro e w9 ⟨⟨L, B, cB, rfl, hL, hR⟩, hb9⟩
    have HF := Lib.hid (tokHere_of hb1 B8 hL hR hb9)
    clear hb1 B8 hR hb9
    go_wp2_with fail
    refine bodyPost_ret (v := .tuple #[.slice B L.length cB, .int .i64 r4, .int .i64 r5, .int .i64 r6]) (by simp [results, Tryd.results8, go_sem]) rfl ?_
    exact ⟨L, B, cB, _, _, _, rfl, HF.out.1, HF.out.2⟩

set_option maxHeartbeats 2000000 in
theorem drawRevoke_any (hl : Lies w w.heap.size 1 A l.length (bytesV l)) (hm : l.length ≤ maxLen) :
    Calls Tryd.prog 10 #[.slice A l.length c] w fun e w' => ∃ (L : List TK) (B : Option Addr) (cB : Nat) (no : Int), e = .returned (.tuple #[.slice B L.length cB, .int .i64 no]) ∧ (0 ≤ no ∧ no < 10) ∧ TokHere w B cB L w' ∧ Below w.heap.size w w' := by
  have HN : Hid (∀ (W : World) (m : Int), SrcAt A l c w.heap.size W → m ≤ 1000000 → Calls Tryd.prog 28 #[.pointer (some ⟨w.heap.size, 0, none⟩), .int .i64 m] W fun e w' => (∃ r : Int, e = .returned (.int .i64 r) ∧ 0 ≤ r ∧ (r < m ∨ r = 0)) ∧ SrcAt A l c w.heap.size w' ∧ W.grownBy w' (some w.heap.size)) := fun W m h1 h2 => srcN_any A l c w.heap.size m W h1 hm h2
  have HT : Hid (∀ W : World, SrcAt A l c w.heap.size W → Calls Tryd.prog 31 #[.pointer (some ⟨w.heap.size, 0, none⟩)] W (TokGot w.heap.size W)) := fun W h1 => l04Tokens_any A l c w.heap.size W h1 hm
  have HS := Lib.hid (l01Source_any A l c w hl hm)
  clear hl
  go_enter Tryd.func10, Tryd.ntmps10
  go_wp2_with fail
  refine HS.out.mono ?_
  rintro e w1 ⟨rfl, hs1, hb1⟩
  have B1 := SrcB.start hs1
  clear hs1 HS
  go_wp2_with fail
  refine (HN.out _ 10 B1.1 (by omega)).mono ?_
  rintro e w2 ⟨⟨r1, rfl, a0, a1⟩, k1, k2⟩
  have B2 := B1.n k1 k2
  clear B1 k1 k2
  go_wp2_with fail
  refine (HT.out _ B2.1).mono ?_
  rintro e w9 ⟨⟨L, B, cB, rfl, hL, hR⟩, hb9⟩
  have HF := Lib.hid (tokHere_of hb1 B2 hL hR hb9)
  clear hb1 B2 hR hb9
  go_wp2_with fail
  refine bodyPost_ret (v := .tuple #[.slice B L.length cB, .int .i64 r1]) (by simp [results, Tryd.results10, go_sem]) rfl ?_
  exact ⟨L, B, cB, _, rfl, by omega, HF.out.1, HF.out.2⟩

set_option maxHeartbeats 2000000 in
theorem drawShows_any (hl : Lies w w.heap.size 1 A l.length (bytesV l)) (hm : l.length ≤ maxLen) :
    Calls Tryd.prog 12 #[.slice A l.length c] w fun e w' => ∃ (L : List TK) (B : Option Addr) (cB : Nat) (no now : Int), e = .returned (.tuple #[.slice B L.length cB, .int .i64 no, .int .i64 now]) ∧ (0 ≤ no ∧ no < 10) ∧ TokHere w B cB L w' ∧ Below w.heap.size w w' := by
  have HN : Hid (∀ (W : World) (m : Int), SrcAt A l c w.heap.size W → m ≤ 1000000 → Calls Tryd.prog 28 #[.pointer (some ⟨w.heap.size, 0, none⟩), .int .i64 m] W fun e w' => (∃ r : Int, e = .returned (.int .i64 r) ∧ 0 ≤ r ∧ (r < m ∨ r = 0)) ∧ SrcAt A l c w.heap.size w' ∧ W.grownBy w' (some w.heap.size)) := fun W m h1 h2 => srcN_any A l c w.heap.size m W h1 hm h2
  have HT : Hid (∀ W : World, SrcAt A l c w.heap.size W → Calls Tryd.prog 31 #[.pointer (some ⟨w.heap.size, 0, none⟩)] W (TokGot w.heap.size W)) := fun W h1 => l04Tokens_any A l c w.heap.size W h1 hm
  have HS := Lib.hid (l01Source_any A l c w hl hm)
  clear hl
  go_enter Tryd.func12, Tryd.ntmps12
  go_wp2_with fail
  refine HS.out.mono ?_
  rintro e w1 ⟨rfl, hs1, hb1⟩
  have B1 := SrcB.start hs1
  clear hs1 HS
  go_wp2_with fail
  refine (HN.out _ 9 B1.1 (by omega)).mono ?_
  rintro e w2 ⟨⟨r1, rfl, a0, a1⟩, k1, k2⟩
  have B2 := B1.n k1 k2
  clear B1 k1 k2
  go_wp2_with fail
  refine (HN.out _ 10 B2.1 (by omega)).mono ?_
  rintro e w3 ⟨⟨r2, rfl, b0, b1⟩, k1, k2⟩
  have B3 := B2.n k1 k2
  clear B2 k1 k2
  go_wp2_with fail
  refine (HT.out _ B3.1).mono ?_
  rintro e w9 ⟨⟨L, B, cB, rfl, hL, hR⟩, hb9⟩
  have HF := Lib.hid (tokHere_of hb1 B3 hL hR hb9)
  clear hb1 B3 hR hb9
  go_wp2_with fail
  refine bodyPost_ret (v := .tuple #[.slice B L.length cB, .int .i64 r1, .int .i64 r2]) (by simp [results, Tryd.results12, go_sem]) rfl ?_
  exact ⟨L, B, cB, _, _, rfl, by omega, HF.out.1, HF.out.2⟩

set_option maxHeartbeats 2000000 in
theorem drawRoleMay_any (hl : Lies w w.heap.size 1 A l.length (bytesV l)) (hm : l.length ≤ maxLen) :
    Calls Tryd.prog 13 #[.slice A l.length c] w fun e w' => ∃ (r k : Int), e = .returned (.tuple #[.int .i64 r, .int .i64 k]) ∧ (0 ≤ r ∧ r < 5) ∧ (0 ≤ k ∧ k < 12) ∧ Below w.heap.size w w' := by
  have HN : Hid (∀ (W : World) (m : Int), SrcAt A l c w.heap.size W → m ≤ 1000000 → Calls Tryd.prog 28 #[.pointer (some ⟨w.heap.size, 0, none⟩), .int .i64 m] W fun e w' => (∃ r : Int, e = .returned (.int .i64 r) ∧ 0 ≤ r ∧ (r < m ∨ r = 0)) ∧ SrcAt A l c w.heap.size w' ∧ W.grownBy w' (some w.heap.size)) := fun W m h1 h2 => srcN_any A l c w.heap.size m W h1 hm h2
  have HS := Lib.hid (l01Source_any A l c w hl hm)
  clear hl
  go_enter Tryd.func13, Tryd.ntmps13
  go_wp2_with fail
  refine HS.out.mono ?_
  rintro e w1 ⟨rfl, hs1, hb1⟩
  have B1 := SrcB.start hs1
  clear hs1 HS
  go_wp2_with fail
  refine (HN.out _ 5 B1.1 (by omega)).mono ?_
  rintro e w2 ⟨⟨r1, rfl, a0, a1⟩, k1, k2⟩
  have B2 := B1.n k1 k2
  clear B1 k1 k2
  go_wp2_with fail
  refine (HN.out _ 12 B2.1 (by omega)).mono ?_
  rintro e w3 ⟨⟨r2, rfl, b0, b1⟩, k1, k2⟩
  have B3 := B2.n k1 k2
  clear B2 k1 k2
  go_wp2_with fail
  refine bodyPost_ret (v := .tuple #[.int .i64 r1, .int .i64 r2]) (by simp [results, Tryd.results13, go_sem]) rfl ?_
  exact ⟨_, _, rfl, by omega, by omega, hb1.trans B3.2.1⟩
end
end Go.Proofs.YtjgcanhaelabaaaDoor
