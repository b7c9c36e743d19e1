/-
  FnExactPnrSame: the walk and the row: at every two bookings impl answers as spec, and below the old heap nothing has turned.
-/
import Derived.Test.YtagbcfkdieinpaaOpenPnr
import Derived.Test.YtagbcfkdieinpaaPnrSame
import Derived.Test.YtagbcfkdieinpaaBoxes
import Derived.Test.YtagbcfkdieinpaaLift
import Derived.Deep.RegionWith
import Derived.Deep.DeepCutAuto
namespace Go.Proofs.Ytagbcfkdieinpaa
open Go.ChangeShapes Go.WideShapes Go.ChangeAt Go.RowKit Go.ChangeMaps
set_option linter.unusedSimpArgs false
set_option linter.unusedVariables false

set_option maxHeartbeats 4000000 in
theorem pnrSame_walk (p : PD) (A1 : Option Addr) (c1 : Nat) (A2 : Option Addr) (c2 : Nat) (q : PD) (B1 : Option Addr) (d1 : Nat) (B2 : Option Addr) (d2 : Nat) (w : World) (hlp : PLies w w.heap.size p A1 A2) (hfp : PFit p) (hlq : PLies w w.heap.size q B1 B2) (hfq : PFit q) :
    Calls Try.prog 6 #[pdV p A1 c1 A2 c2, pdV q B1 d1 B2 d2] w fun e w' => Holds e w w' := by
  have HZP : Hid (∀ W : World, Below w.heap.size w W → Calls Try.prog 18 #[pdV p A1 c1 A2 c2, .int .i64 1048576] W fun e w' => e = .returned (.int .i64 (leftP 1048576 p)) ∧ Below W.heap.size W w') :=
    fun W hW => szPnr_any p A1 c1 A2 c2 1048576 W (hlp.on hW) hfp (by omega) (by omega)
  have HZQ : ¬ (1048576 : Int) < (bulk p : Nat) → Hid (∀ W : World, Below w.heap.size w W → Calls Try.prog 18 #[pdV q B1 d1 B2 d2, .int .i64 (1048576 - (bulk p : Nat))] W fun e w' => e = .returned (.int .i64 (leftP (1048576 - (bulk p : Nat)) q)) ∧ Below W.heap.size W w') :=
    fun h W hW => szPnr_any q B1 d1 B2 d2 _ W (hlq.on hW) hfq (by omega) (by omega)
  have HP : ¬ (1048576 : Int) < (bulk p : Nat) → p.names.length ≤ 1099511627 ∧ p.holds.length ≤ 1099511627 := fun h => by unfold bulk at h; omega
  have HQ : ¬ (1048576 - (bulk p : Nat) : Int) < (bulk q : Nat) → q.names.length ≤ 1099511627 ∧ q.holds.length ≤ 1099511627 := fun h => by unfold bulk at h; omega
  unfold leftP at HZP HZQ
  generalize bulk p = X at *
  generalize bulk q = Y at *
  by_cases hX : (1048576 : Int) < (X : Nat)
  · rw [if_pos hX] at HZP
    clear HZQ HP HQ
    obtain ⟨h, l, o, ns, hs, b, f⟩ := p
    obtain ⟨h', l', o', ns', hs', b', f'⟩ := q
    dsimp only [pdV] at *
    go_enter Try.func6, Try.ntmps6
    go_wp2_with fail
    refine (HZP.out _ (by go_grown)).mono ?_
    rintro e w1 ⟨rfl, hb1⟩
    go_wp2_with fail
    go_ret
    exact ⟨rfl, Below.trans (by go_grown) (hb1.mono (by simp; omega))⟩
  rw [if_neg hX] at HZP
  replace HZQ := HZQ hX
  obtain ⟨p1, p2⟩ := HP hX
  have HTP : Hid (∀ W : World, Below w.heap.size w W → Calls Try.prog 20 #[pdV p A1 c1 A2 c2] W (PnrMade p W)) := fun W hW => toPnr_any p A1 c1 A2 c2 W (hlp.on hW) p1 p2
  have HTQ : ¬ (1048576 - (X : Nat) : Int) < (Y : Nat) → Hid (∀ W : World, Below w.heap.size w W → Calls Try.prog 20 #[pdV q B1 d1 B2 d2] W (PnrMade q W)) := fun h W hW => toPnr_any q B1 d1 B2 d2 W (hlq.on hW) (HQ h).1 (HQ h).2
  have HEP : Hid (∀ (W : World) (A1 : Option Addr) (c1 : Nat) (A2 : Option Addr) (c2 : Nat) (B1 : Option Addr) (d1 : Nat) (B2 : Option Addr) (d2 : Nat), PLies W W.heap.size p A1 A2 → PLies W W.heap.size p B1 B2 → Calls Try.prog 22 #[pdV p A1 c1 A2 c2, pdV p B1 d1 B2 d2] W fun e w' => e = .returned (.bool true) ∧ Below W.heap.size W w') :=
    fun W A1 c1 A2 c2 B1 d1 B2 d2 h1 h2 => eqPnr_same p A1 c1 A2 c2 B1 d1 B2 d2 W h1 h2 p1 p2
  have HEQ : ¬ (1048576 - (X : Nat) : Int) < (Y : Nat) → Hid (∀ (W : World) (A1 : Option Addr) (c1 : Nat) (A2 : Option Addr) (c2 : Nat) (B1 : Option Addr) (d1 : Nat) (B2 : Option Addr) (d2 : Nat), PLies W W.heap.size q A1 A2 → PLies W W.heap.size q B1 B2 → Calls Try.prog 22 #[pdV q A1 c1 A2 c2, pdV q B1 d1 B2 d2] W fun e w' => e = .returned (.bool true) ∧ Below W.heap.size W w') :=
    fun h W A1 c1 A2 c2 B1 d1 B2 d2 h1 h2 => eqPnr_same q A1 c1 A2 c2 B1 d1 B2 d2 W h1 h2 (HQ h).1 (HQ h).2
  have HS : ¬ (1048576 - (X : Nat) : Int) < (Y : Nat) → Hid (∀ (W : World) (A1 : Option Addr) (c1 : Nat) (A2 : Option Addr) (c2 : Nat) (B1 : Option Addr) (d1 : Nat) (B2 : Option Addr) (d2 : Nat), PLies W W.heap.size p A1 A2 → PLies W W.heap.size q B1 B2 → Calls Try.prog 23 #[pdV p A1 c1 A2 c2, pdV q B1 d1 B2 d2] W fun e w' => e = .returned (.bool (sameB p q)) ∧ Below W.heap.size W w') :=
    fun h W A1 c1 A2 c2 B1 d1 B2 d2 h1 h2 => sPnrSame_any p q A1 c1 A2 c2 B1 d1 B2 d2 W h1 h2 p1 p2 (HQ h).1 (HQ h).2
  have HI : ¬ (1048576 - (X : Nat) : Int) < (Y : Nat) → Hid (∀ (W : World) (A1 : Option Addr) (c1 : Nat) (A2 : Option Addr) (c2 : Nat) (B1 : Option Addr) (d1 : Nat) (B2 : Option Addr) (d2 : Nat), PLies W W.heap.size p A1 A2 → PLies W W.heap.size q B1 B2 → Calls Try.prog 24 #[pdV p A1 c1 A2 c2, pdV q B1 d1 B2 d2] W fun e w' => e = .returned (.bool (sameB p q)) ∧ Below W.heap.size W w') :=
    fun h W A1 c1 A2 c2 B1 d1 B2 d2 h1 h2 => iPnrSame_any p q A1 c1 A2 c2 B1 d1 B2 d2 W h1 h2 p1 p2 (HQ h).1 (HQ h).2
  clear hlp hfp hlq hfq HP HQ p1 p2
  generalize sameB p q = R at *
  obtain ⟨h, l, o, ns, hs, b, f⟩ := p
  obtain ⟨h', l', o', ns', hs', b', f'⟩ := q
  dsimp only [pdV] at *
  by_cases hY : (1048576 - (X : Nat) : Int) < (Y : Nat)
  · rw [if_pos hY] at HZQ
    clear HTP HTQ HEP HEQ HS HI
    go_enter Try.func6, Try.ntmps6
    go_wp2_with fail
    refine (HZP.out _ (by go_grown)).mono ?_
    rintro e w1 ⟨rfl, hb1⟩
    have T1 : Two w (pnrCs h l o ns.length A1 c1 hs.length A2 c2 b f) (pnrCs h' l' o' ns'.length B1 d1 hs'.length B2 d2 b' f') w1 := ⟨Below.trans (by go_grown) (hb1.mono (by simp; omega)), ((Box.new w _ _).alloc _).on hb1, by have := (Box.new (w.alloc (.cells (pnrCs h l o ns.length A1 c1 hs.length A2 c2 b f) 43)) (pnrCs h' l' o' ns'.length B1 d1 hs'.length B2 d2 b' f') 43).on hb1; simpa using this⟩
    have q1 := T1.2.1.cells
    have q2 := T1.2.2.cells
    clear hb1
    go_wp2_with fail
    refine (HZQ.out _ T1.1).mono ?_
    rintro e w2 ⟨rfl, hb2⟩
    have T2 := T1.on hb2
    clear hb2 q1 q2 T1
    go_wp2_with fail
    go_ret
    exact ⟨rfl, T2.1⟩
  · rw [if_neg hY] at HZQ
    replace HTQ := HTQ hY
    replace HEQ := HEQ hY
    replace HS := HS hY
    replace HI := HI hY
    go_enter Try.func6, Try.ntmps6
    go_wp2_with fail
    refine (HZP.out _ (by go_grown)).mono ?_
    rintro e w1 ⟨rfl, hb1⟩
    have T1 : Two w (pnrCs h l o ns.length A1 c1 hs.length A2 c2 b f) (pnrCs h' l' o' ns'.length B1 d1 hs'.length B2 d2 b' f') w1 := ⟨Below.trans (by go_grown) (hb1.mono (by simp; omega)), ((Box.new w _ _).alloc _).on hb1, by have := (Box.new (w.alloc (.cells (pnrCs h l o ns.length A1 c1 hs.length A2 c2 b f) 43)) (pnrCs h' l' o' ns'.length B1 d1 hs'.length B2 d2 b' f') 43).on hb1; simpa using this⟩
    have q1 := T1.2.1.cells
    have q2 := T1.2.2.cells
    clear hb1
    go_wp2_with fail
    refine (HZQ.out _ T1.1).mono ?_
    rintro e w2 ⟨rfl, hb2⟩
    have T2 := T1.on hb2
    clear hb2 q1 q2 T1
    go_upto_region 8 with fail
    go_cut [6] (fun v W => v = .bool R ∧ Two w (pnrCs h l o ns.length A1 c1 hs.length A2 c2 b f) (pnrCs h' l' o' ns'.length B1 d1 hs'.length B2 d2 b' f') W)
    case first =>
      have q1 := T2.2.1.cells
      have q2 := T2.2.2.cells
      go_region_with (first
        | (go_at_call 20; (with_reducible refine (HTP.out _ ?_).mono ?_); (first | exact T2.1 | exact T2.drew.1); rintro e wA ⟨E1, e1, E2, e2, rfl, hlA, hbA⟩; (first | (have TA := T2.on hbA) | (have TA := T2.drew.on hbA)); have qA1 := TA.2.1.cells; have qA2 := TA.2.2.cells)
        | (go_at_call 20; (with_reducible refine (HTQ.out _ ?_).mono ?_); exact TA.1; rintro e wB ⟨F1, f1, F2, f2, rfl, hlB, hbB⟩; have TB := TA.on hbB; have hlA' := hlA.on hbB)
        | (go_at_call 23; (with_reducible refine (HS.out _ _ _ _ _ _ _ _ _ hlA' hlB).mono ?_); rintro e wC ⟨rfl, hbC⟩; have TC := TB.on hbC))
      all_goals
        go_wp2_with fail
        go_meet
        exact ⟨rfl, TC⟩
    case rest =>
      obtain ⟨rfl, T3⟩ := hcut
      clear T2
      have q1 := T3.2.1.cells
      go_wp2_with fail
      refine (HTP.out _ T3.1).mono ?_
      rintro e w4 ⟨E1, e1, E2, e2, rfl, hl4, hb4⟩
      have T4 := T3.on hb4
      have q2 := fun o => (T4.alloc o).2.2.cells
      clear q1 T3 hb4
      go_wp2_with fail
      refine (HTQ.out _ (T4.alloc _).1).mono ?_
      rintro e w5 ⟨F1, f1, F2, f2, rfl, hl5, hb5⟩
      have T5 := (T4.alloc _).on hb5
      have X7 : Box w5 w4.heap.size 47 (pnrCs h l o ns.length E1 e1 hs.length E2 e2 b f) := (Box.new w4 _ _).on hb5
      have hl4' := (hl4.alloc _).on hb5
      have x7 := fun o => (X7.alloc o).cells
      clear q2 T4 hl4 hb5
      go_wp2_with fail
      refine (HI.out _ _ _ _ _ _ _ _ _ (hl4'.alloc _) (hl5.alloc _)).mono ?_
      rintro e w6 ⟨rfl, hb6⟩
      have T6 := (T5.alloc _).on hb6
      have X76 := (X7.alloc _).on hb6
      have X86 : Box w6 w5.heap.size 47 (pnrCs h' l' o' ns'.length F1 f1 hs'.length F2 f2 b' f') := (Box.new w5 _ _).on hb6
      have hlp6 := (hl4'.alloc _).on hb6
      have hlq6 := (hl5.alloc _).on hb6
      clear x7 T5 X7 hl4' hl5 hb6
      go_upto_region 14 with fail
      go_cut [39] (fun v W => v = .bool false ∧ (Two w (pnrCs h l o ns.length A1 c1 hs.length A2 c2 b f) (pnrCs h' l' o' ns'.length B1 d1 hs'.length B2 d2 b' f') W ∧ Box W w4.heap.size 47 (pnrCs h l o ns.length E1 e1 hs.length E2 e2 b f) ∧ Box W w5.heap.size 47 (pnrCs h' l' o' ns'.length F1 f1 hs'.length F2 f2 b' f') ∧ PLies W W.heap.size ⟨h, l, o, ns, hs, b, f⟩ E1 E2 ∧ PLies W W.heap.size ⟨h', l', o', ns', hs', b', f'⟩ F1 F2))
      case first =>
        have q1 := T6.2.1.cells
        have x7 := X76.cells
        go_region_with (first
        | (go_at_call 20; (with_reducible refine (HTP.out _ ?_).mono ?_); (first | exact T6.1 | exact T6.drew.1); rintro e wA ⟨G1, g1, G2, g2, rfl, hlA, hbA⟩; (first | (have TA := T6.on hbA; have X7A := X76.on hbA; have X8A := X86.on hbA; have hlpA := hlp6.on hbA; have hlqA := hlq6.on hbA) | (have TA := T6.drew.on hbA; have X7A := X76.drew.on hbA; have X8A := X86.drew.on hbA; have hlpA := hlp6.drew.on hbA; have hlqA := hlq6.drew.on hbA)); have qA1 := TA.2.1.cells; have qA2 := TA.2.2.cells; have xA7 := X7A.cells; have xA8 := X8A.cells)
        | (go_at_call 22; (with_reducible refine (HEP.out _ _ _ _ _ _ _ _ _ hlpA hlA).mono ?_); rintro e wC ⟨rfl, hbC⟩; have TC := TA.on hbC; have X7C := X7A.on hbC; have X8C := X8A.on hbC; have hlpC := hlpA.on hbC; have hlqC := hlqA.on hbC))
        all_goals
          go_wp2_with fail
          go_meet
          exact ⟨rfl, TC, X7C, X8C, hlpC, hlqC⟩
      case rest =>
        obtain ⟨rfl, T7, X77, X87, hlp7, hlq7⟩ := hcut
        clear T6 X76 X86 hlp6 hlq6
        go_upto_region 16 with fail
        go_cut [44] (fun v W => v = .bool false ∧ Two w (pnrCs h l o ns.length A1 c1 hs.length A2 c2 b f) (pnrCs h' l' o' ns'.length B1 d1 hs'.length B2 d2 b' f') W)
        case first =>
          have q2 := T7.2.2.cells
          have x8 := X87.cells
          go_region_with (first
        | (go_at_call 20; (with_reducible refine (HTQ.out _ ?_).mono ?_); (first | exact T7.1 | exact T7.drew.1); rintro e wA ⟨G1, g1, G2, g2, rfl, hlA, hbA⟩; (first | (have TA := T7.on hbA; have X7A := X77.on hbA; have X8A := X87.on hbA; have hlpA := hlp7.on hbA; have hlqA := hlq7.on hbA) | (have TA := T7.drew.on hbA; have X7A := X77.drew.on hbA; have X8A := X87.drew.on hbA; have hlpA := hlp7.drew.on hbA; have hlqA := hlq7.drew.on hbA)); have qA1 := TA.2.1.cells; have qA2 := TA.2.2.cells; have xA7 := X7A.cells; have xA8 := X8A.cells)
        | (go_at_call 22; (with_reducible refine (HEQ.out _ _ _ _ _ _ _ _ _ hlqA hlA).mono ?_); rintro e wC ⟨rfl, hbC⟩; have TC := TA.on hbC; have X7C := X7A.on hbC; have X8C := X8A.on hbC; have hlpC := hlpA.on hbC; have hlqC := hlqA.on hbC))
          all_goals
            go_wp2_with fail
            go_meet
            exact ⟨rfl, TC⟩
        case rest =>
          obtain ⟨rfl, T8⟩ := hcut
          clear T7 X77 X87 hlp7 hlq7
          go_wp2_with fail
          go_ret
          exact ⟨rfl, T8.1⟩

set_option maxRecDepth 100000 in
theorem fnExactPnrSame_lifted (os : Os) (started : os.Started) (H : Type) (enc : TypeId × Value → H) :
    ReturnsInHanded {} Try.checked os 6 .any (Rows.fnExactPnrSameSpec.pre6 enc Try.prog Try.f6 Rows.fnExactPnrSameRow.domain false) (Rows.fnExactPnrSameSpec.post enc Try.prog Try.f6 false true false false) := by
  refine law_lifted started (by kernel_rfl) Try.func6 rfl rfl Try.underlying4 (by rw [Try.params6]; exact List.forall_mem_cons.2 ⟨⟨by kernel_rfl, of_decide_eq_true (by kernel_rfl)⟩, List.forall_mem_cons.2 ⟨⟨by kernel_rfl, of_decide_eq_true (by kernel_rfl)⟩, fun _ h => by cases h⟩⟩) (fun ds hd => ?_)
    (ChangeSpec.witness6 (enc := enc) (C := Try.checked) false ⟨#[], #[.agg #[.int .i64 0, .int .i64 0, .int .i64 0, .slice none 0 0, .slice none 0 0, .bool false, .int .i64 0], .agg #[.int .i64 0, .int .i64 0, .int .i64 0, .slice none 0 0, .slice none 0 0, .bool false, .int .i64 0]], []⟩ 8 (by kernel_rfl) (by kernel_rfl) (by kernel_rfl) (by kernel_rfl)) ?_
  · match ds, hd with
    | [_, _], _ => rfl
  · intro W base args ds p hval hA hlt _
    rw [Try.params6] at hA hval
    obtain ⟨v0, vs0, d0, ds0, p0, q0, hargs, rfl, rfl, h0, r0⟩ := trodAll_cons hA
    obtain ⟨v1, vs1, d1, ds1, p1, q1, rfl, rfl, rfl, h1, r1⟩ := trodAll_cons r0
    obtain ⟨rfl, rfl, rfl⟩ := trodAll_nil r1
    obtain rfl : args = #[v0, v1] := by cases args; simp_all
    obtain ⟨a0p, a0a, a0b, a0c, a0d, rfl, l0, f0⟩ := open_pnr (hval 0 43 v0 rfl rfl) h0
    obtain ⟨a1p, a1a, a1b, a1c, a1d, rfl, l1, f1⟩ := open_pnr (hval 1 43 v1 rfl rfl) h1
    exact pnrSame_walk a0p a0a a0b a0c a0d a1p a1a a1b a1c a1d W l0 f0 l1 f1

theorem fnExactPnrSame_holds : Rows.FnExactPnrSameSaid :=
  OpenClaim.holds_of_wide 6 Try.f6 rfl rfl rfl rfl rfl rfl rfl ⟨rfl, rfl, rfl, rfl, rfl⟩ rfl rfl rfl rfl rfl (by kernel_rfl) Try.func6 (by kernel_rfl)
    (of_decide_eq_true (by kernel_rfl)) (by unfold Func.isWrapper; first | (rw [if_pos (by decide +kernel)]; kernel_rfl) | (rw [if_neg (by decide +kernel)]; exact ⟨rfl, rfl⟩))
    (fun os started H enc _ => fnExactPnrSame_lifted os started H enc)
end Go.Proofs.Ytagbcfkdieinpaa
