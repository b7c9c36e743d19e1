/-
  spec.HoldPut: the walk.
-/
import Derived.Test.YtpncnkihfijmaaaGreatDoorM11
import Derived.Test.YtpncnkihfijmaaaGreatDoorM1
import Derived.Test.YtpncnkihfijmaaaGreatDoorM3
namespace Go.Proofs.YtpncnkihfijmaaaGreatDoor
open Go.ChangeShapes Go.WideShapes Go.ChangeAt Go.RowKit Go.ChangeMaps
set_option maxRecDepth 10000
set_option linter.unusedSimpArgs false
set_option linter.unusedVariables false

/-- The box of a hold that came in. -/
abbrev boxW (w : World) (x : HD) : World := w.alloc (.cells #[.string x.f, .int .i64 x.r, .int .i64 x.c] 49)

theorem made_of_own {l' : List HD} {w w' : World} {v : Value} {n : Nat} {xs : List Value} {e : Ending} (he : e = .returned v) (hown : w'.ownsRow w.heap.size 49 3 v n xs) (hn : n = l'.length) (hx : xs = holdsC l') (hb : Below w.heap.size w w') : HoldsMade l' w e w' := by
  subst hn hx
  obtain ⟨A, c, rfl, -⟩ := own_form hown
  exact ⟨A, c, he, hown, hb⟩

set_option maxHeartbeats 4000000 in
theorem sHoldPut_any (l : List HD) (x : HD) (A : Option Addr) (cap : Nat) (w : World) (hl : Lies w w.heap.size 3 A l.length (holdsC l)) (hcap : l.length ≤ cap) (hm : l.length ≤ 1099511627) :
    Calls Tryz.prog 24 #[.slice A l.length cap, holdV x.f x.r x.c] w (HoldsMade (putL l x) w) := by
  by_cases h400 : 400 < l.length
  · have HP := Lib.hid (putL_big (x := x) h400)
    clear hl
    go_enter Tryz.func24, Tryz.ntmps24
    go_wp2
    go_ret
    rw [HP.out]
    exact ⟨some ⟨w.heap.size + 1, 0, none⟩, 0, rfl, by have := World.ownsRow_lit (base := w.heap.size) (e := 49) (size := 3) (boxW w x) #[] 0 (by simp) (by simp) rfl; simpa [boxW, holdsC] using this, by go_grown⟩
  · have hB1 : Below w.heap.size w (boxW w x) := (Below.refl _ w).alloc (Nat.le_refl _) _
    have HL1 := Lib.hid (hl.below hB1)
    have HP1 : Hid (x ∈ l → putL l x = l) := putL_there h400
    have HP2 : Hid (x ∉ l → putL l x = l.take (placeL l x) ++ ([x] ++ l.drop (placeL l x))) := putL_new h400
    obtain ⟨xf, xr, xc⟩ := x
    have x0 : (boxW w ⟨xf, xr, xc⟩).cell? ⟨w.heap.size, 0, none⟩ = some (.string xf) := cell_of_row _ _ _ _ _ (0, 0) (heap_alloc_new w _)
    have x1 : (boxW w ⟨xf, xr, xc⟩).cell? ⟨w.heap.size, 1, none⟩ = some (.int .i64 xr) := cell_of_row _ _ _ _ _ (0, 0) (heap_alloc_new w _)
    have x2 : (boxW w ⟨xf, xr, xc⟩).cell? ⟨w.heap.size, 2, none⟩ = some (.int .i64 xc) := cell_of_row _ _ _ _ _ (0, 0) (heap_alloc_new w _)
    dsimp only at *
    clear hl
    go_enter Tryz.func24, Tryz.ntmps24
    go_wp2
    go_loopw [5] (fun i wr => ∃ k : Nat, k ≤ l.length ∧ i = .int .i64 k ∧ Hid (⟨xf, xr, xc⟩ ∉ l.take k) ∧ Below (w.heap.size + 1) (boxW w ⟨xf, xr, xc⟩) wr) (fun i _ => l.length - (intOf i).toNat)
    case atStart => exact ⟨0, Nat.zero_le _, rfl, by simp [Hid], Below.refl _ _⟩
    case round =>
      obtain ⟨k, hk, rfl, HN, hB⟩ := hrel
      have hz : w.heap.size + 1 ≤ wr.heap.size := by have := hB.size; simpa using this
      have hB0 : Below w.heap.size w wr := hB1.trans (hB.mono (Nat.le_succ _))
      have hLr := HL1.out.below (hB.mono (Nat.le_succ _))
      have d0 := (hB.cell (p := ⟨w.heap.size, 0, none⟩) (by simp)).trans x0
      have d1 := (hB.cell (p := ⟨w.heap.size, 1, none⟩) (by simp)).trans x1
      have d2 := (hB.cell (p := ⟨w.heap.size, 2, none⟩) (by simp)).trans x2
      by_cases hlt : k < l.length
      · obtain ⟨b, off, y, rfl, hlb, hy, c0, c1, c2⟩ := hLr.hold hlt
        have hBd := hB.drew
        by_cases hxy : y = ⟨xf, xr, xc⟩
        · subst hxy
          have HP := Lib.hid (HP1.out (mem_at hy))
          have HLr := Lib.hid hLr
          clear hy HN HP1 HP2 x0 x1 x2 hLr
          dsimp only at c0 c1 c2
          go_wp2_with fail
          go_region_held3 (fun W => W.cell? ⟨b, off + k * 3, none⟩ = some (.string xf) ∧ W.cell? ⟨b, off + k * 3 + 1, none⟩ = some (.int .i64 xr) ∧ W.cell? ⟨b, off + k * 3 + 2, none⟩ = some (.int .i64 xc) ∧ W.cell? ⟨w.heap.size, 0, none⟩ = some (.string xf) ∧ W.cell? ⟨w.heap.size, 1, none⟩ = some (.int .i64 xr) ∧ W.cell? ⟨w.heap.size, 2, none⟩ = some (.int .i64 xc) ∧ Below (w.heap.size + 1) (boxW w ⟨xf, xr, xc⟩) W ∧ w.heap.size + 1 ≤ W.heap.size) (go_keep) (fail)
          rename_i hHeld
          obtain ⟨-, -, -, -, -, -, hB, hz⟩ := hHeld
          have hB2 := hB1.trans (hB.mono (Nat.le_succ _))
          have hLW := HL1.out.below (hB.mono (Nat.le_succ _))
          go_wp2_with (at_builtin; refine wpList_append_lies Tryz.underlying38 info_hold rfl (by decide) (by decide) w.heap.size _ 0 [] rfl (World.ownsRow_lit _ #[] 0 (by omega) (by simp) rfl) w.heap.size _ _ _ _ rfl (hLW.below ((Below.refl _ _).alloc (by omega) _)) (holdsC_one _) (by omega) (by simp; omega) ?_; intro v1 w1 hown1 hg1)
          go_ret
          obtain ⟨A1, c1, rfl, -, -⟩ := own_form hown1
          rw [HP.out]
          have hown2 : w1.ownsRow w.heap.size 49 3 (.slice A1 l.length c1) l.length (holdsC l) := by simpa using hown1
          exact ⟨A1, c1, by simp, hown2, (hB2.alloc (by omega) _).grown hg1 (by simp; omega) (fun k e => by have e1 := Option.some.inj e; simp at e1; omega)⟩
        · have HN2 := Lib.hid (notin_succ HN.out hy hxy)
          have hp := ne_parts hxy
          obtain ⟨yf, yr, yc⟩ := y
          dsimp only at c0 c1 c2 hp
          clear hxy HN hy HP1 HP2 x0 x1 x2 hLr
          rcases hp with hp | ⟨rfl, hp⟩ | ⟨rfl, rfl, hp⟩
          · have hne := str_ne hp
            clear hp
            go_wp2_with fail
            go_region_held3 (fun W => W.cell? ⟨b, off + k * 3, none⟩ = some (.string yf) ∧ W.cell? ⟨b, off + k * 3 + 1, none⟩ = some (.int .i64 yr) ∧ W.cell? ⟨b, off + k * 3 + 2, none⟩ = some (.int .i64 yc) ∧ W.cell? ⟨w.heap.size, 0, none⟩ = some (.string xf) ∧ W.cell? ⟨w.heap.size, 1, none⟩ = some (.int .i64 xr) ∧ W.cell? ⟨w.heap.size, 2, none⟩ = some (.int .i64 xc) ∧ Below (w.heap.size + 1) (boxW w ⟨xf, xr, xc⟩) W ∧ w.heap.size + 1 ≤ W.heap.size) (go_keep) (fail)
            rename_i hHeld
            obtain ⟨-, -, -, -, -, -, hB, -⟩ := hHeld
            go_wp2_with fail
            go_roundw
            case rel => exact ⟨k + 1, by omega, by go_num, HN2.out, hB⟩
            case measure => simp [intOf]; omega
          · have hne : (yr == xr) = false := beq_eq_false_iff_ne.2 hp
            clear hp
            go_wp2_with fail
            go_region_held3 (fun W => W.cell? ⟨b, off + k * 3, none⟩ = some (.string yf) ∧ W.cell? ⟨b, off + k * 3 + 1, none⟩ = some (.int .i64 yr) ∧ W.cell? ⟨b, off + k * 3 + 2, none⟩ = some (.int .i64 yc) ∧ W.cell? ⟨w.heap.size, 0, none⟩ = some (.string yf) ∧ W.cell? ⟨w.heap.size, 1, none⟩ = some (.int .i64 xr) ∧ W.cell? ⟨w.heap.size, 2, none⟩ = some (.int .i64 xc) ∧ Below (w.heap.size + 1) (boxW w ⟨yf, xr, xc⟩) W ∧ w.heap.size + 1 ≤ W.heap.size) (go_keep) (fail)
            rename_i hHeld
            obtain ⟨-, -, -, -, -, -, hB, -⟩ := hHeld
            go_wp2_with fail
            go_roundw
            case rel => exact ⟨k + 1, by omega, by go_num, HN2.out, hB⟩
            case measure => simp [intOf]; omega
          · have hne : (yc == xc) = false := beq_eq_false_iff_ne.2 hp
            clear hp
            go_wp2_with fail
            go_region_held3 (fun W => W.cell? ⟨b, off + k * 3, none⟩ = some (.string yf) ∧ W.cell? ⟨b, off + k * 3 + 1, none⟩ = some (.int .i64 yr) ∧ W.cell? ⟨b, off + k * 3 + 2, none⟩ = some (.int .i64 yc) ∧ W.cell? ⟨w.heap.size, 0, none⟩ = some (.string yf) ∧ W.cell? ⟨w.heap.size, 1, none⟩ = some (.int .i64 yr) ∧ W.cell? ⟨w.heap.size, 2, none⟩ = some (.int .i64 xc) ∧ Below (w.heap.size + 1) (boxW w ⟨yf, yr, xc⟩) W ∧ w.heap.size + 1 ≤ W.heap.size) (go_keep) (fail)
            rename_i hHeld
            obtain ⟨-, -, -, -, -, -, hB, -⟩ := hHeld
            go_wp2_with fail
            go_roundw
            case rel => exact ⟨k + 1, by omega, by go_num, HN2.out, hB⟩
            case measure => simp [intOf]; omega
      · obtain rfl : k = l.length := by omega
        have hX := HN.out
        rw [List.take_length] at hX
        have HP := Lib.hid (HP2.out hX)
        clear hX HN HP1 d0 d1 d2 hLr hB0 HP2
        go_wp2_with fail
        go_loopw [6] (fun i wr => ∃ k : Nat, k ≤ l.length ∧ i = .int .i64 k ∧ Hid (k ≤ placeL l ⟨xf, xr, xc⟩) ∧ Below (w.heap.size + 1) (boxW w ⟨xf, xr, xc⟩) wr) (fun i _ => l.length - (intOf i).toNat)
        case atStart => exact ⟨0, Nat.zero_le _, rfl, Nat.zero_le _, hB⟩
        case round =>
          obtain ⟨k, hk, rfl, HN, hB⟩ := hrel
          have hz : w.heap.size + 1 ≤ wr.heap.size := by have := hB.size; simpa using this
          have hB0 : Below w.heap.size w wr := hB1.trans (hB.mono (Nat.le_succ _))
          have hLr := HL1.out.below (hB.mono (Nat.le_succ _))
          have d0 := (hB.cell (p := ⟨w.heap.size, 0, none⟩) (by simp)).trans x0
          have d1 := (hB.cell (p := ⟨w.heap.size, 1, none⟩) (by simp)).trans x1
          have d2 := (hB.cell (p := ⟨w.heap.size, 2, none⟩) (by simp)).trans x2
          have f0 := Cls.cell d0
          have f1 := Cls.cell d1
          have f2 := Cls.cell d2
          by_cases hlt : k < l.length
          · obtain ⟨b, off, y, rfl, hlb, hy, c0, c1, c2⟩ := hLr.hold hlt
            have e0 := Cls.cell c0
            have e1 := Cls.cell c1
            have e2 := Cls.cell c2
            have k1 : decide (k < l.length) = true := decide_eq_true hlt
            have k2 : decide ((k : Int) < (l.length : Int)) = true := decide_eq_true (by omega)
            cases hbl : lessB y ⟨xf, xr, xc⟩
            · have HK := Lib.hid (placeL_stop HN.out hy hbl)
              have HLq : Hid (∀ p : Cls wr, Calls Tryz.prog 32 #[holdV y.f y.r y.c, holdV xf xr xc] p.W fun e w'' => e = .returned (.bool false) ∧ ∃ p' : Cls wr, w'' = p'.W) := fun p => Cls.call (hbl ▸ sHoldLess_any y ⟨xf, xr, xc⟩ p.W)
              clear hbl hy HN hLr c0 c1 c2 d0 d1 d2
              have hck : ¬ (cap = k) := by omega
              go_wp2_with fail
              refine wp_region_cls (by kernel_rfl) (by kernel_rfl) ?_
              repeat (go_big_quiet_step (first | (go_at_call 32; exact HLq.out _)))
              refine wpQuiet_nil ?_
              rintro W ⟨⟨W', hW⟩, rfl⟩
              have hBW := hB.trans (hW.mono hz)
              have hzW : w.heap.size + 1 ≤ W.heap.size := by have := hBW.size; simpa using this
              have hLW := HL1.out.below (hBW.mono (Nat.le_succ _))
              clear hW
              have HKL : Hid (k ≤ l.length) := Lib.hid (by omega)
              go_wp2_with (first
                | (at_builtin; have hq := HO2.out; refine wpList_append_lies Tryz.underlying38 info_hold rfl (by decide) (by decide) w.heap.size _ _ _ rfl hq w.heap.size _ _ _ _ rfl (hLw.rest hlt) (holdsC_one _) (by omega) (by omega) ?_; intro v3 w3 hown3 hg3)
                | (at_builtin; have hq := HO1.out; refine wpList_append_elem Tryz.underlying38 info_hold rfl (by decide) (by decide) w.heap.size _ _ _ rfl hq rfl rfl (fun u hu => holdsC_one [⟨xf, xr, xc⟩] u (by simpa [holdsC, holdC] using hu)) (by omega) (by omega) ?_; intro v2 w2 hown2 hb2; clear hq; have hBb2 := (HG.out.mono (Nat.le_succ _)).trans hb2; have hLw := HL1.out.below hBb2; have hz2 : w.heap.size ≤ w2.heap.size := Nat.le_trans (by omega) hb2.size; have HO2 := Lib.hid hown2; clear hown2 hb2 d0 d1 d2)
                | (at_builtin; refine wpList_append_lies Tryz.underlying38 info_hold rfl (by decide) (by decide) w.heap.size _ 0 [] rfl (World.ownsRow_lit W #[] 0 (by omega) (by simp) rfl) w.heap.size _ _ _ _ rfl ((hLW.take HKL.out).below ((Below.refl _ _).alloc (by omega) _)) (holdsC_one _) (by omega) (by simp; omega) ?_; intro v1 w1 hown1 hg1; have hBb := (hBW.alloc hzW _).grown hg1 (by simp; omega) (fun k e => by have e1 := Option.some.inj e; simp at e1; omega); have hz1 : w.heap.size + 1 ≤ w1.heap.size := (by have := hBb.size; simpa using this); have d0 := (hBb.cell (p := ⟨w.heap.size, 0, none⟩) (by simp)).trans x0; have d1 := (hBb.cell (p := ⟨w.heap.size, 1, none⟩) (by simp)).trans x1; have d2 := (hBb.cell (p := ⟨w.heap.size, 2, none⟩) (by simp)).trans x2; have HO1 := Lib.hid hown1; have HG := Lib.hid hBb; clear hown1 hg1 hBb))
              go_ret
              rw [HP.out, HK.out]
              exact made_of_own (by simp) hown3 (by simp; omega) (by simp [holdsC, holdC]) ((hB1.trans hBb2).grown hg3 hz2 (fun k e => (HO2.out.lt k e).1))
            · have HK := Lib.hid (placeL_succ HN.out hy hbl)
              have HLq : Hid (∀ p : Cls wr, Calls Tryz.prog 32 #[holdV y.f y.r y.c, holdV xf xr xc] p.W fun e w'' => e = .returned (.bool true) ∧ ∃ p' : Cls wr, w'' = p'.W) := fun p => Cls.call (hbl ▸ sHoldLess_any y ⟨xf, xr, xc⟩ p.W)
              clear hbl hy HN hLr x0 x1 x2 c0 c1 c2 d0 d1 d2
              go_wp2_with fail
              refine wp_region_cls (by kernel_rfl) (by kernel_rfl) ?_
              repeat (go_big_quiet_step (first | (go_at_call 32; exact HLq.out _)))
              refine wpQuiet_nil ?_
              rintro W ⟨⟨W', hW⟩, rfl⟩
              have hBW := hB.trans (hW.mono hz)
              go_wp2_with fail
              go_roundw
              case rel => exact ⟨k + 1, by omega, by go_num, HK.out, hBW⟩
              case measure => simp [intOf]; omega
          · obtain rfl : k = l.length := by omega
            have k1 : decide (l.length < l.length) = false := decide_eq_false hlt
            have k2 : decide ((l.length : Int) < (l.length : Int)) = false := decide_eq_false (by omega)
            have HK : Hid (placeL l ⟨xf, xr, xc⟩ = l.length) := Nat.le_antisymm (placeL_le _ _) HN.out
            clear HN hLr d0 d1 d2
            go_wp2_with fail
            refine wp_region_cls (by kernel_rfl) (by kernel_rfl) ?_
            repeat (go_big_quiet_step (fail))
            refine wpQuiet_nil ?_
            rintro W ⟨⟨W', hW⟩, rfl⟩
            have hBW := hB.trans (hW.mono hz)
            have hzW : w.heap.size + 1 ≤ W.heap.size := by have := hBW.size; simpa using this
            have hLW := HL1.out.below (hBW.mono (Nat.le_succ _))
            clear hW
            have HKL : Hid (l.length ≤ l.length) := Lib.hid (by omega)
            go_wp2_with (first
              | (at_builtin; have hq := HO2.out; refine wpList_append_lies Tryz.underlying38 info_hold rfl (by decide) (by decide) w.heap.size _ _ _ rfl hq w.heap.size _ _ _ _ rfl (⟨rfl, fun h => absurd h (Nat.lt_irrefl 0)⟩ : Lies w2 w.heap.size 3 _ 0 []) (by simp) (by omega) (by omega) ?_; intro v3 w3 hown3 hg3)
              | (at_builtin; have hq := HO1.out; refine wpList_append_elem Tryz.underlying38 info_hold rfl (by decide) (by decide) w.heap.size _ _ _ rfl hq rfl rfl (fun u hu => holdsC_one [⟨xf, xr, xc⟩] u (by simpa [holdsC, holdC] using hu)) (by omega) (by omega) ?_; intro v2 w2 hown2 hb2; clear hq; have hBb2 := (HG.out.mono (Nat.le_succ _)).trans hb2; have hLw := HL1.out.below hBb2; have hz2 : w.heap.size ≤ w2.heap.size := Nat.le_trans (by omega) hb2.size; have HO2 := Lib.hid hown2; clear hown2 hb2 d0 d1 d2)
              | (at_builtin; refine wpList_append_lies Tryz.underlying38 info_hold rfl (by decide) (by decide) w.heap.size _ 0 [] rfl (World.ownsRow_lit W #[] 0 (by omega) (by simp) rfl) w.heap.size _ _ _ _ rfl ((hLW.take HKL.out).below ((Below.refl _ _).alloc (by omega) _)) (holdsC_one _) (by omega) (by simp; omega) ?_; intro v1 w1 hown1 hg1; have hBb := (hBW.alloc hzW _).grown hg1 (by simp; omega) (fun k e => by have e1 := Option.some.inj e; simp at e1; omega); have hz1 : w.heap.size + 1 ≤ w1.heap.size := (by have := hBb.size; simpa using this); have d0 := (hBb.cell (p := ⟨w.heap.size, 0, none⟩) (by simp)).trans x0; have d1 := (hBb.cell (p := ⟨w.heap.size, 1, none⟩) (by simp)).trans x1; have d2 := (hBb.cell (p := ⟨w.heap.size, 2, none⟩) (by simp)).trans x2; have HO1 := Lib.hid hown1; have HG := Lib.hid hBb; clear hown1 hg1 hBb))
            all_goals (
              go_ret
              rw [HP.out, HK.out]
              exact made_of_own (by simp) hown3 (by simp) (by simp [holdsC, holdC]) ((hB1.trans hBb2).grown hg3 hz2 (fun k e => (HO2.out.lt k e).1)))
end Go.Proofs.YtpncnkihfijmaaaGreatDoor
