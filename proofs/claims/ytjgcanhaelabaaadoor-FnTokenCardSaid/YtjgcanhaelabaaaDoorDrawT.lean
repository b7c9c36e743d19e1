/-
  The spec's draws: lists of tokens.
-/
import Derived.Test.YtjgcanhaelabaaaDoorTokSnoc
import Derived.Test.YtjgcanhaelabaaaDoorDraw1
import Derived.Test.YtjgcanhaelabaaaDoorIssueS
namespace Go.Proofs.YtjgcanhaelabaaaDoor
open Go.ChangeShapes Go.WideShapes Go.ChangeAt Go.RowKit Go.ChangeMaps
set_option maxRecDepth 10000
set_option linter.unusedSimpArgs false
set_option linter.unusedVariables false

/-- A walk's world: the source lies; but for its own cells and new blocks nothing has turned. -/
def SrcG (A : Option Addr) (l : List UInt8) (c g : Nat) (w W : World) : Prop := SrcAt A l c g W ∧ w.grownBy W (some g) ∧ g < w.heap.size
section
variable {A : Option Addr} {l : List UInt8} {c g : Nat} {w W W' : World}
theorem SrcG.on (h : SrcG A l c g w W) (hb : Below W.heap.size W W') : SrcG A l c g w W' := ⟨h.1.on hb, grown_trans' h.2.1 (grown_of_below hb _), h.2.2⟩
theorem SrcG.n (h : SrcG A l c g w W) (h1 : SrcAt A l c g W') (h2 : W.grownBy W' (some g)) : SrcG A l c g w W' := ⟨h1, grown_trans' h.2.1 h2, h.2.2⟩
theorem SrcG.size (h : SrcG A l c g w W) : w.heap.size ≤ W.heap.size := h.2.1.size
end
/-- A row of the call's own behind a draw. -/
theorem row_draw {W W' : World} {base : Nat} {e : TypeId} {k n : Nat} {v : Value} {xs : List Value} {g : Nat} (h : W.ownsRow base e k v n xs) (hg : W.grownBy W' (some g)) (hb : g < base) : W'.ownsRow base e k v n xs :=
  own_grown h hg (fun g' h1 e => by have := (h.lt g' h1).1; have := Option.some.inj e; omega)

theorem field_toks (x y z : Value) (W : World) : Sem.run Tryd.prog (Instr.field 28 (.agg #[x, y, z]) 0) W = .ok x W := by
  first | rfl | simp [go_sem, Sem.run, Instr.field, Tryd.underlying28]

/-- How far l04TokensOf has come: n tokens are wanted, i are there. -/
def TofRel (A : Option Addr) (l : List UInt8) (c g : Nat) (w : World) (v k : Value) (W : World) : Prop :=
  ∃ (i n : Nat) (L : List TK) (B : Option Addr) (cB : Nat), i ≤ n ∧ 3 ≤ n ∧ n ≤ 7 ∧ k = .int .i64 ((n : Int) - i) ∧ v = .slice B L.length cB ∧ L.length = i ∧ toksOkB L = true ∧ lastN L = i ∧
    W.ownsRow w.heap.size 39 4 (.slice B L.length cB) L.length (toksC L) ∧ SrcG A l c g w W

set_option maxHeartbeats 4000000 in
theorem tokensOf_any (A : Option Addr) (l : List UInt8) (c g : Nat) (w : World) (h : SrcAt A l c g w) (hl : l.length ≤ maxLen) :
    Calls Tryd.prog 55 #[.pointer (some ⟨g, 0, none⟩)] w fun e w' => (∃ (L : List TK) (B : Option Addr) (cB : Nat), e = .returned (.slice B L.length cB) ∧ 3 ≤ L.length ∧ L.length ≤ 7 ∧ w'.ownsRow w.heap.size 39 4 (.slice B L.length cB) L.length (toksC L)) ∧ SrcG A l c g w w' := by
  have hg : g < w.heap.size := by obtain ⟨_, _, _, h1, -⟩ := h; exact h1.lt
  have HN : Hid (∀ (W : World) (m : Int), SrcAt A l c g W → m ≤ 1000000 → Calls Tryd.prog 28 #[.pointer (some ⟨g, 0, none⟩), .int .i64 m] W fun e w' => (∃ r : Int, e = .returned (.int .i64 r) ∧ 0 ≤ r ∧ (r < m ∨ r = 0)) ∧ SrcAt A l c g w' ∧ W.grownBy w' (some g)) := fun W m h1 h2 => srcN_any A l c g m W h1 hl h2
  have HI : Hid (∀ (L : List TK) (B : Option Addr) (cB : Nat) (h r t : Int) (W : World), Lies W W.heap.size 4 B L.length (toksC L) → L.length ≤ 1099511627 → Calls Tryd.prog 15 #[.slice B L.length cB, .int .i64 h, .int .i64 r, .int .i64 t] W (ToksMade (issueT L h r t) W)) := fun L B cB h r t W h1 h2 => sIssue_any L B cB h r t W h1 h2
  have hS0 : SrcAt A l c g (w.alloc (.cells #[] 39)) := h.on ((Below.refl _ w).alloc (Nat.le_refl _) _)
  have hG0 : SrcG A l c g w (w.alloc (.cells #[] 39)) := ⟨hS0, World.grownBy_alloc w _ _, hg⟩
  have hR0 : (w.alloc (.cells #[] 39)).ownsRow w.heap.size 39 4 (.slice (some ⟨w.heap.size, 0, none⟩) 0 0) 0 (toksC []) := by
    have := World.ownsRow_lit (base := w.heap.size) (e := 39) (size := 4) w #[] 0 (Nat.le_refl _) (by simp) rfl
    simpa [toksC] using this
  clear h
  go_enter Tryd.func55, Tryd.ntmps55
  go_wp2_with fail
  refine (HN.out _ 5 hS0 (by omega)).mono ?_
  rintro e w1 ⟨⟨r, rfl, hr0, hr1⟩, h1, h2⟩
  have hG1 := hG0.n h1 h2
  have hR1 := row_draw hR0 h2 hg
  obtain ⟨rn, rfl⟩ := nat_of hr0
  have hw3 : IntKind.i64.wrap (3 + (rn : Int)) = 3 + (rn : Int) := IntWalk.i64_in _ (by omega)
  clear hS0 hG0 hR0 h1 h2
  go_wp2_with fail
  go_loopw [3, 4] (fun v k W => TofRel A l c g w v k W) (fun _ k _ => (intOf k).toNat)
  case atStart => exact ⟨0, 3 + rn, [], _, 0, Nat.zero_le _, by omega, by omega, by go_num, rfl, rfl, rfl, rfl, hR1, hG1⟩
  case round =>
    obtain ⟨i, n, L, B, cB, hin, hn3, hn7, rfl, rfl, hLi, hok, hla, hR, hG⟩ := hrel
    subst hLi
    by_cases hlt : L.length < n
    · have hgt : (0 : Int) < (n : Int) - (L.length : Int) := by omega
      go_wp2_with fail
      refine (HN.out _ 3 hG.1 (by omega)).mono ?_
      rintro e w2 ⟨⟨r1, rfl, a0, a1⟩, k1, k2⟩
      have hG2 := hG.n k1 k2
      have hR2 := row_draw hR k2 hg
      clear k1 k2
      go_wp2_with fail
      refine (HN.out _ 3 hG2.1 (by omega)).mono ?_
      rintro e w3 ⟨⟨r2, rfl, b0, b1⟩, k1, k2⟩
      have hG3 := hG2.n k1 k2
      have hR3 := (row_draw hR2 k2 hg).alloc (.cells #[.int .i64 5, .int .i64 100, .int .i64 100, .int .i64 100] 2)
      have hG3a := hG3.on ((Below.refl _ w3).alloc (Nat.le_refl _) (.cells #[.int .i64 5, .int .i64 100, .int .i64 100, .int .i64 100] 2))
      have hX := Block.new w3 #[.int .i64 5, .int .i64 100, .int .i64 100, .int .i64 100] 2
      have hz3 := hG3.size
      clear k1 k2 hR2 hG2 hG3
      go_wp2_with fail
      refine (HN.out _ 4 hG3a.1 (by omega)).mono ?_
      rintro e w4 ⟨⟨r3, rfl, d0, d1⟩, k1, k2⟩
      have hG4 := hG3a.n k1 k2
      have hR4 := row_draw hR3 k2 hg
      have hX4 := hX.kept k2 (fun e => by have := Option.some.inj e; omega)
      obtain ⟨j, rfl⟩ := nat_of d0
      have hj : j < 4 := by omega
      obtain ⟨t, ht, htt⟩ : ∃ t : Int, w4.cell? ⟨w3.heap.size, j, none⟩ = some (.int .i64 t) ∧ (t = 5 ∨ t = 100) := by
        rw [hX4.cell j]
        have : j = 0 ∨ j = 1 ∨ j = 2 ∨ j = 3 := by omega
        rcases this with rfl | rfl | rfl | rfl
        · exact ⟨5, rfl, .inl rfl⟩
        · exact ⟨100, rfl, .inr rfl⟩
        · exact ⟨100, rfl, .inr rfl⟩
        · exact ⟨100, rfl, .inr rfl⟩
      have hj2 : (j : Int) < 4 := by omega
      have hgr : grantB (1 + r1) (1 + r2) t = true := by simp [grantB, inB]; omega
      have HT : Hid (issueT L (1 + r1) (1 + r2) t = (L ++ [⟨(L.length : Int) + 1, 1 + r1, 1 + r2, t⟩], (L.length : Int) + 1, 0)) := by
        have := issue_one (l := L) (h := 1 + r1) (r := 1 + r2) (t := t) (by omega) hok hgr (by rw [hla]; omega)
        rwa [hla] at this
      have HOK := Lib.hid (toksOk_snoc (x := ⟨(L.length : Int) + 1, 1 + r1, 1 + r2, t⟩) hok (by omega) (by rw [hla]; show (L.length : Int) < (L.length : Int) + 1; omega) (by show 1 ≤ (L.length : Int) + 1; omega) (by show (L.length : Int) + 1 ≤ 999; omega) hgr)
      have HIS := Lib.hid (HI.out L B cB (1 + r1) (1 + r2) t w4 (Lies.own hR4) (by omega))
      have hw1 : IntKind.i64.wrap (1 + r1) = 1 + r1 := IntWalk.i64_in _ (by omega)
      have hw2 : IntKind.i64.wrap (1 + r2) = 1 + r2 := IntWalk.i64_in _ (by omega)
      rw [HT.out] at HIS
      clear k1 k2 hX hX4 hR3 hG3a hok hla htt
      go_wp2_with fail
      refine HIS.out.mono ?_
      rintro e w5 ⟨B5, c5, rfl, hR5, hb5⟩
      have hG5 := hG4.on hb5
      have hR6 := ownsRow_base hR5 (Nat.le_succ_of_le hG4.size)
      dsimp only [outV] at *
      have hlen : (L ++ [(⟨(L.length : Int) + 1, 1 + r1, 1 + r2, t⟩ : TK)]).length = L.length + 1 := by simp
      rw [hlen] at hR6 ⊢
      clear HN HI HIS hR5 hR4 hG4 hb5 hR hG
      go_wp2_with fail
      rw [field_toks]
      go_wp2_with fail
      go_roundw
      case rel => exact ⟨L.length + 1, n, L ++ [⟨(L.length : Int) + 1, 1 + r1, 1 + r2, t⟩], B5, c5, by omega, hn3, hn7, by go_num, by rw [hlen], hlen, HOK.out, by rw [lastN_snoc]; simp, by rw [hlen]; exact hR6, hG5⟩
      case measure => simp [intOf]; omega
    · obtain rfl : n = L.length := by omega
      have hgt : ¬ (0 : Int) < (L.length : Int) - (L.length : Int) := by omega
      go_wp2_with fail
      go_ret
      exact ⟨⟨L, B, cB, rfl, by omega, by omega, hR⟩, hG⟩
end Go.Proofs.YtjgcanhaelabaaaDoor
