/-
  PnrSame: the walks.
-/
import Derived.Test.YtpncnkihfijmaaaGreatDoorM1
import Derived.Test.YtpncnkihfijmaaaGreatDoorM11
namespace Go.Proofs.YtpncnkihfijmaaaGreatDoor
open Go.ChangeShapes Go.WideShapes Go.ChangeAt Go.RowKit Go.ChangeMaps
set_option maxRecDepth 10000
set_option linter.unusedSimpArgs false
set_option linter.unusedVariables false

/-- Are two bookings alike? -/
def sameB (p q : PD) : Bool := decide (p.home = q.home ∧ p.loc = q.loc ∧ p.owner = q.owner ∧ p.live = q.live ∧ p.offer = q.offer ∧ p.names = q.names ∧ p.holds = q.holds)
theorem sameB_no {p q : PD} (h : ¬ (p.home = q.home ∧ p.loc = q.loc ∧ p.owner = q.owner ∧ p.live = q.live ∧ p.offer = q.offer ∧ p.names = q.names ∧ p.holds = q.holds)) : sameB p q = false := decide_eq_false h
theorem sameB_yes {p : PD} : sameB p p = true := decide_eq_true ⟨rfl, rfl, rfl, rfl, rfl, rfl, rfl⟩

set_option maxHeartbeats 4000000 in
theorem sPnrSame_any (p q : PD) (A1 : Option Addr) (c1 : Nat) (A2 : Option Addr) (c2 : Nat) (B1 : Option Addr) (d1 : Nat) (B2 : Option Addr) (d2 : Nat) (w : World) (hl : PLies w w.heap.size p A1 A2) (hl' : PLies w w.heap.size q B1 B2) (hn : p.names.length ≤ 1099511627) (hh : p.holds.length ≤ 1099511627) (hn' : q.names.length ≤ 1099511627) (hh' : q.holds.length ≤ 1099511627) :
    Calls Tryz.prog 27 #[pdV p A1 c1 A2 c2, pdV q B1 d1 B2 d2] w fun e w' => e = .returned (.bool (sameB p q)) ∧ Below w.heap.size w w' := by
  obtain ⟨h, l, o, ns, hs, b, f⟩ := p
  obtain ⟨h', l', o', ns', hs', b', f'⟩ := q
  obtain ⟨hl1, hl2⟩ := hl
  obtain ⟨hl3, hl4⟩ := hl'
  dsimp only [pdV] at *
  have HR : Hid (sameB ⟨h, l, o, ns, hs, b, f⟩ ⟨h', l', o', ns', hs', b', f'⟩ = decide (h = h' ∧ l = l' ∧ o = o' ∧ b = b' ∧ f = f' ∧ ns = ns' ∧ hs = hs')) := rfl
  generalize sameB ⟨h, l, o, ns, hs, b, f⟩ ⟨h', l', o', ns', hs', b', f'⟩ = R at *
  by_cases eh : h = h'
  rotate_left
  · have e1 : (h == h') = false := beq_eq_false_iff_ne.2 eh
    have e2 : (h != h') = true := bne_iff_ne.2 eh
    have HNN := Lib.hid eh
    clear eh
    have HN : Hid (R = false) := by rw [Hid, HR.out]; exact decide_eq_false (by intro hc; exact HNN.out (by simp_all))
    clear HR HNN hl1 hl2 hl3 hl4
    go_enter Tryz.func27, Tryz.ntmps27
    go_wp2
    go_ret
    exact ⟨ret_bool HN.out.symm, by go_grown⟩
  subst eh
  by_cases el : l = l'
  rotate_left
  · have e1 : (l == l') = false := beq_eq_false_iff_ne.2 el
    have e2 : (l != l') = true := bne_iff_ne.2 el
    have HNN := Lib.hid el
    clear el
    have HN : Hid (R = false) := by rw [Hid, HR.out]; exact decide_eq_false (by intro hc; exact HNN.out (by simp_all))
    clear HR HNN hl1 hl2 hl3 hl4
    go_enter Tryz.func27, Tryz.ntmps27
    go_wp2
    go_ret
    exact ⟨ret_bool HN.out.symm, by go_grown⟩
  subst el
  by_cases eo : o = o'
  rotate_left
  · have e1 : (o == o') = false := beq_eq_false_iff_ne.2 eo
    have e2 : (o != o') = true := bne_iff_ne.2 eo
    have HNN := Lib.hid eo
    clear eo
    have HN : Hid (R = false) := by rw [Hid, HR.out]; exact decide_eq_false (by intro hc; exact HNN.out (by simp_all))
    clear HR HNN hl1 hl2 hl3 hl4
    go_enter Tryz.func27, Tryz.ntmps27
    go_wp2
    go_ret
    exact ⟨ret_bool HN.out.symm, by go_grown⟩
  subst eo
  by_cases eb : b = b'
  rotate_left
  · have HNN := Lib.hid eb
    have HN : Hid (R = false) := by rw [Hid, HR.out]; exact decide_eq_false (by intro hc; exact HNN.out (by simp_all))
    clear HR HNN hl1 hl2 hl3 hl4
    cases b <;> cases b'
    all_goals first | exact absurd rfl eb | skip
    all_goals
      clear eb
      go_enter Tryz.func27, Tryz.ntmps27
      go_wp2
      go_ret
      exact ⟨ret_bool HN.out.symm, by go_grown⟩
  subst eb
  by_cases ef : f = f'
  rotate_left
  · have e1 : (f == f') = false := beq_eq_false_iff_ne.2 ef
    have e2 : (f != f') = true := bne_iff_ne.2 ef
    have HNN := Lib.hid ef
    clear ef
    have HN : Hid (R = false) := by rw [Hid, HR.out]; exact decide_eq_false (by intro hc; exact HNN.out (by simp_all))
    clear HR HNN hl1 hl2 hl3 hl4
    go_enter Tryz.func27, Tryz.ntmps27
    go_wp2
    go_ret
    exact ⟨ret_bool HN.out.symm, by go_grown⟩
  subst ef
  by_cases ens : ns.length = ns'.length
  rotate_left
  · have e1 : ((ns.length : Int) == (ns'.length : Int)) = false := beq_eq_false_iff_ne.2 (by omega)
    have e2 : ((ns.length : Int) != (ns'.length : Int)) = true := bne_iff_ne.2 (by omega)
    have e3 : ¬ ((ns.length : Int) = (ns'.length : Int)) := by omega
    have HNN := Lib.hid ens
    clear ens
    have HN : Hid (R = false) := by rw [Hid, HR.out]; exact decide_eq_false (by intro hc; exact HNN.out (by simp_all))
    clear HR HNN hl1 hl2 hl3 hl4
    go_enter Tryz.func27, Tryz.ntmps27
    go_wp2
    go_ret
    exact ⟨ret_bool HN.out.symm, by go_grown⟩
  rw [← ens] at hl3 ⊢
  have HENS := Lib.hid ens
  clear ens
  by_cases ehs : hs.length = hs'.length
  rotate_left
  · have e1 : ((hs.length : Int) == (hs'.length : Int)) = false := beq_eq_false_iff_ne.2 (by omega)
    have e2 : ((hs.length : Int) != (hs'.length : Int)) = true := bne_iff_ne.2 (by omega)
    have e3 : ¬ ((hs.length : Int) = (hs'.length : Int)) := by omega
    have HNN := Lib.hid ehs
    clear ehs
    have HN : Hid (R = false) := by rw [Hid, HR.out]; exact decide_eq_false (by intro hc; exact HNN.out (by simp_all))
    clear HR HNN hl1 hl2 hl3 hl4
    go_enter Tryz.func27, Tryz.ntmps27
    go_wp2
    go_ret
    exact ⟨ret_bool HN.out.symm, by go_grown⟩
  rw [← ehs] at hl4 ⊢
  have HEHS := Lib.hid ehs
  clear ehs
  have hl1' := hl1
  go_enter Tryz.func27, Tryz.ntmps27
  go_wp2
  go_loopw [5] (fun i wr => ∃ k : Nat, k ≤ ns.length ∧ i = .int .i64 k ∧ Hid (ns.take k = ns'.take k) ∧ (wr.cell? ⟨w.heap.size, 3, none⟩ = some (.slice A1 ns.length c1) ∧ wr.cell? ⟨w.heap.size, 4, none⟩ = some (.slice A2 hs.length c2) ∧ wr.cell? ⟨w.heap.size + 1, 3, none⟩ = some (.slice B1 ns.length d1) ∧ wr.cell? ⟨w.heap.size + 1, 4, none⟩ = some (.slice B2 hs.length d2)) ∧ Below w.heap.size w wr ∧ w.heap.size + 2 ≤ wr.heap.size) (fun i _ => ns.length - (intOf i).toNat)
  case atStart => exact ⟨0, Nat.zero_le _, rfl, rfl, ⟨by go_simp, by go_simp, by go_simp, by go_simp⟩, by go_grown, by simp⟩
  case round =>
    obtain ⟨k, hk, rfl, HT, ⟨q1, q2, q3, q4⟩, hB, hz⟩ := hrel
    have hBd := hB.drew
    by_cases hlt : k < ns.length
    · obtain ⟨ba, offa, x, rfl, hlb, hx, c0⟩ := (hl1.below hB).str hlt
      obtain ⟨bb, offb, y, rfl, hlb', hy, d0⟩ := (hl3.below hB).str hlt
      clear hl1 hl2 hl3 hl4 hl1'
      by_cases hxy : x = y
      · subst hxy
        have HT2 := Lib.hid (take_eq_succ HT.out hx hy)
        clear hx hy HT
        go_wp2_with fail
        go_region_held3 (fun W => W.cell? ⟨ba, offa + k, none⟩ = some (.string x) ∧ W.cell? ⟨bb, offb + k, none⟩ = some (.string x) ∧ W.cell? ⟨w.heap.size, 3, none⟩ = some (.slice (some ⟨ba, offa, none⟩) ns.length c1) ∧ W.cell? ⟨w.heap.size, 4, none⟩ = some (.slice A2 hs.length c2) ∧ W.cell? ⟨w.heap.size + 1, 3, none⟩ = some (.slice (some ⟨bb, offb, none⟩) ns.length d1) ∧ W.cell? ⟨w.heap.size + 1, 4, none⟩ = some (.slice B2 hs.length d2) ∧ Below w.heap.size w W ∧ w.heap.size + 2 ≤ W.heap.size) (go_keep) (fail)
        rename_i hHeld
        obtain ⟨-, -, q1, q2, q3, q4, hB, hz⟩ := hHeld
        go_wp2_with fail
        go_roundw
        case rel => exact ⟨k + 1, by omega, by go_num, HT2.out, ⟨q1, q2, q3, q4⟩, hB, hz⟩
        case measure => simp [intOf]; omega
      · have HNE := Lib.hid (ne_of_at hx hy hxy)
        have hne := str_ne hxy
        have HN : Hid (R = false) := by rw [Hid, HR.out]; exact decide_eq_false (fun hc => HNE.out hc.2.2.2.2.2.1)
        clear hx hy HT hxy HR HNE
        go_wp2_with fail
        go_region_held3 (fun W => W.cell? ⟨ba, offa + k, none⟩ = some (.string x) ∧ W.cell? ⟨bb, offb + k, none⟩ = some (.string y) ∧ W.cell? ⟨w.heap.size, 3, none⟩ = some (.slice (some ⟨ba, offa, none⟩) ns.length c1) ∧ W.cell? ⟨w.heap.size, 4, none⟩ = some (.slice A2 hs.length c2) ∧ W.cell? ⟨w.heap.size + 1, 3, none⟩ = some (.slice (some ⟨bb, offb, none⟩) ns.length d1) ∧ W.cell? ⟨w.heap.size + 1, 4, none⟩ = some (.slice B2 hs.length d2) ∧ Below w.heap.size w W ∧ w.heap.size + 2 ≤ W.heap.size) (go_keep) (fail)
        rename_i hHeld
        obtain ⟨-, -, q1, q2, q3, q4, hB, hz⟩ := hHeld
        go_wp2_with fail
        go_ret
        exact ⟨ret_bool HN.out.symm, hB⟩
    · obtain rfl : k = ns.length := by omega
      have HE : Hid (ns = ns') := by
        have := HT.out
        rw [List.take_length, HENS.out, List.take_length] at this
        exact this
      clear HT hl1 hl3 hl1'
      go_wp2
      obtain ⟨wo, rfl⟩ : ∃ wo : World, wo = wr := ⟨_, rfl⟩
      go_loopw [6] (fun i wr => ∃ k : Nat, k ≤ hs.length ∧ i = .int .i64 k ∧ Hid (hs.take k = hs'.take k) ∧ (wr.cell? ⟨w.heap.size, 3, none⟩ = some (.slice A1 ns.length c1) ∧ wr.cell? ⟨w.heap.size, 4, none⟩ = some (.slice A2 hs.length c2) ∧ wr.cell? ⟨w.heap.size + 1, 3, none⟩ = some (.slice B1 ns.length d1) ∧ wr.cell? ⟨w.heap.size + 1, 4, none⟩ = some (.slice B2 hs.length d2)) ∧ Below w.heap.size w wr ∧ w.heap.size + 2 ≤ wr.heap.size) (fun i _ => hs.length - (intOf i).toNat)
      case atStart => exact ⟨0, Nat.zero_le _, rfl, rfl, ⟨q1, q2, q3, q4⟩, hB, hz⟩
      case round =>
        clear q1 q2 q3 q4 hB hz hBd
        obtain ⟨k, hk, rfl, HT, ⟨q1, q2, q3, q4⟩, hB, hz⟩ := hrel
        have hBd := hB.drew
        by_cases hlt : k < hs.length
        · obtain ⟨ba, offa, x, rfl, hlb, hx, c0, ca, cb⟩ := (hl2.below hB).hold hlt
          obtain ⟨bb, offb, y, rfl, hlb', hy, d0, da, db⟩ := (hl4.below hB).hold hlt
          clear hl2 hl4
          by_cases hxy : x = y
          · subst hxy
            have HT2 := Lib.hid (take_eq_succ HT.out hx hy)
            obtain ⟨xf, xr, xc⟩ := x
            dsimp only at c0 ca cb d0 da db
            clear hx hy HT
            go_wp2_with fail
            go_region_held3 (fun W => W.cell? ⟨ba, offa + k * 3, none⟩ = some (.string xf) ∧ W.cell? ⟨ba, offa + k * 3 + 1, none⟩ = some (.int .i64 xr) ∧ W.cell? ⟨ba, offa + k * 3 + 2, none⟩ = some (.int .i64 xc) ∧ W.cell? ⟨bb, offb + k * 3, none⟩ = some (.string xf) ∧ W.cell? ⟨bb, offb + k * 3 + 1, none⟩ = some (.int .i64 xr) ∧ W.cell? ⟨bb, offb + k * 3 + 2, none⟩ = some (.int .i64 xc) ∧ W.cell? ⟨w.heap.size, 3, none⟩ = some (.slice A1 ns.length c1) ∧ W.cell? ⟨w.heap.size, 4, none⟩ = some (.slice (some ⟨ba, offa, none⟩) hs.length c2) ∧ W.cell? ⟨w.heap.size + 1, 3, none⟩ = some (.slice B1 ns.length d1) ∧ W.cell? ⟨w.heap.size + 1, 4, none⟩ = some (.slice (some ⟨bb, offb, none⟩) hs.length d2) ∧ Below w.heap.size w W ∧ w.heap.size + 2 ≤ W.heap.size) (go_keep) (fail)
            rename_i hHeld
            obtain ⟨-, -, -, -, -, -, q1, q2, q3, q4, hB, hz⟩ := hHeld
            go_wp2_with fail
            go_roundw
            case rel => exact ⟨k + 1, by omega, by go_num, HT2.out, ⟨q1, q2, q3, q4⟩, hB, hz⟩
            case measure => simp [intOf]; omega
          · have HNE := Lib.hid (ne_of_at hx hy hxy)
            have hp := ne_parts hxy
            obtain ⟨xf, xr, xc⟩ := x
            obtain ⟨yf, yr, yc⟩ := y
            dsimp only at c0 ca cb d0 da db hp
            have HN : Hid (R = false) := by rw [Hid, HR.out]; exact decide_eq_false (fun hc => HNE.out hc.2.2.2.2.2.2)
            clear hx hy HT hxy HR HNE
            rcases hp with hp | ⟨rfl, hp⟩ | ⟨rfl, rfl, hp⟩
            · have hne := str_ne hp
              clear hp
              go_wp2_with fail
              go_region_held3 (fun W => W.cell? ⟨ba, offa + k * 3, none⟩ = some (.string xf) ∧ W.cell? ⟨ba, offa + k * 3 + 1, none⟩ = some (.int .i64 xr) ∧ W.cell? ⟨ba, offa + k * 3 + 2, none⟩ = some (.int .i64 xc) ∧ W.cell? ⟨bb, offb + k * 3, none⟩ = some (.string yf) ∧ W.cell? ⟨bb, offb + k * 3 + 1, none⟩ = some (.int .i64 yr) ∧ W.cell? ⟨bb, offb + k * 3 + 2, none⟩ = some (.int .i64 yc) ∧ W.cell? ⟨w.heap.size, 3, none⟩ = some (.slice A1 ns.length c1) ∧ W.cell? ⟨w.heap.size, 4, none⟩ = some (.slice (some ⟨ba, offa, none⟩) hs.length c2) ∧ W.cell? ⟨w.heap.size + 1, 3, none⟩ = some (.slice B1 ns.length d1) ∧ W.cell? ⟨w.heap.size + 1, 4, none⟩ = some (.slice (some ⟨bb, offb, none⟩) hs.length d2) ∧ Below w.heap.size w W ∧ w.heap.size + 2 ≤ W.heap.size) (go_keep) (fail)
              rename_i hHeld
              obtain ⟨-, -, -, -, -, -, q1, q2, q3, q4, hB, hz⟩ := hHeld
              go_wp2_with fail
              go_ret
              exact ⟨ret_bool HN.out.symm, hB⟩
            · have hne : (xr == yr) = false := beq_eq_false_iff_ne.2 hp
              clear hp
              go_wp2_with fail
              go_region_held3 (fun W => W.cell? ⟨ba, offa + k * 3, none⟩ = some (.string xf) ∧ W.cell? ⟨ba, offa + k * 3 + 1, none⟩ = some (.int .i64 xr) ∧ W.cell? ⟨ba, offa + k * 3 + 2, none⟩ = some (.int .i64 xc) ∧ W.cell? ⟨bb, offb + k * 3, none⟩ = some (.string xf) ∧ W.cell? ⟨bb, offb + k * 3 + 1, none⟩ = some (.int .i64 yr) ∧ W.cell? ⟨bb, offb + k * 3 + 2, none⟩ = some (.int .i64 yc) ∧ W.cell? ⟨w.heap.size, 3, none⟩ = some (.slice A1 ns.length c1) ∧ W.cell? ⟨w.heap.size, 4, none⟩ = some (.slice (some ⟨ba, offa, none⟩) hs.length c2) ∧ W.cell? ⟨w.heap.size + 1, 3, none⟩ = some (.slice B1 ns.length d1) ∧ W.cell? ⟨w.heap.size + 1, 4, none⟩ = some (.slice (some ⟨bb, offb, none⟩) hs.length d2) ∧ Below w.heap.size w W ∧ w.heap.size + 2 ≤ W.heap.size) (go_keep) (fail)
              rename_i hHeld
              obtain ⟨-, -, -, -, -, -, q1, q2, q3, q4, hB, hz⟩ := hHeld
              go_wp2_with fail
              go_ret
              exact ⟨ret_bool HN.out.symm, hB⟩
            · have hne : (xc == yc) = false := beq_eq_false_iff_ne.2 hp
              clear hp
              go_wp2_with fail
              go_region_held3 (fun W => W.cell? ⟨ba, offa + k * 3, none⟩ = some (.string xf) ∧ W.cell? ⟨ba, offa + k * 3 + 1, none⟩ = some (.int .i64 xr) ∧ W.cell? ⟨ba, offa + k * 3 + 2, none⟩ = some (.int .i64 xc) ∧ W.cell? ⟨bb, offb + k * 3, none⟩ = some (.string xf) ∧ W.cell? ⟨bb, offb + k * 3 + 1, none⟩ = some (.int .i64 xr) ∧ W.cell? ⟨bb, offb + k * 3 + 2, none⟩ = some (.int .i64 yc) ∧ W.cell? ⟨w.heap.size, 3, none⟩ = some (.slice A1 ns.length c1) ∧ W.cell? ⟨w.heap.size, 4, none⟩ = some (.slice (some ⟨ba, offa, none⟩) hs.length c2) ∧ W.cell? ⟨w.heap.size + 1, 3, none⟩ = some (.slice B1 ns.length d1) ∧ W.cell? ⟨w.heap.size + 1, 4, none⟩ = some (.slice (some ⟨bb, offb, none⟩) hs.length d2) ∧ Below w.heap.size w W ∧ w.heap.size + 2 ≤ W.heap.size) (go_keep) (fail)
              rename_i hHeld
              obtain ⟨-, -, -, -, -, -, q1, q2, q3, q4, hB, hz⟩ := hHeld
              go_wp2_with fail
              go_ret
              exact ⟨ret_bool HN.out.symm, hB⟩
        · obtain rfl : k = hs.length := by omega
          have HF : Hid (hs = hs') := by
            have := HT.out
            rw [List.take_length, HEHS.out, List.take_length] at this
            exact this
          have HY : Hid (R = true) := by rw [Hid, HR.out]; exact decide_eq_true ⟨by trivial, by trivial, by trivial, by trivial, by trivial, HE.out, HF.out⟩
          clear HT hl2 hl4 HR HE HF
          go_wp2
          go_ret
          exact ⟨ret_bool HY.out.symm, hB⟩

set_option maxHeartbeats 4000000 in
theorem iPnrSame_any (p q : PD) (A1 : Option Addr) (c1 : Nat) (A2 : Option Addr) (c2 : Nat) (B1 : Option Addr) (d1 : Nat) (B2 : Option Addr) (d2 : Nat) (w : World) (hl : PLies w w.heap.size p A1 A2) (hl' : PLies w w.heap.size q B1 B2) (hn : p.names.length ≤ 1099511627) (hh : p.holds.length ≤ 1099511627) (hn' : q.names.length ≤ 1099511627) (hh' : q.holds.length ≤ 1099511627) :
    Calls Tryz.prog 28 #[pdV p A1 c1 A2 c2, pdV q B1 d1 B2 d2] w fun e w' => e = .returned (.bool (sameB p q)) ∧ Below w.heap.size w w' := by
  obtain ⟨h, l, o, ns, hs, b, f⟩ := p
  obtain ⟨h', l', o', ns', hs', b', f'⟩ := q
  obtain ⟨hl1, hl2⟩ := hl
  obtain ⟨hl3, hl4⟩ := hl'
  dsimp only [pdV] at *
  have HR : Hid (sameB ⟨h, l, o, ns, hs, b, f⟩ ⟨h', l', o', ns', hs', b', f'⟩ = decide (h = h' ∧ l = l' ∧ o = o' ∧ b = b' ∧ f = f' ∧ ns = ns' ∧ hs = hs')) := rfl
  generalize sameB ⟨h, l, o, ns, hs, b, f⟩ ⟨h', l', o', ns', hs', b', f'⟩ = R at *
  have HS : Hid (∀ W : World, Below w.heap.size w W → Calls Tryz.prog 81 #[.slice A1 ns.length c1, .slice B1 ns'.length d1] W fun e w' => e = .returned (.bool (strsB ns ns')) ∧ Below W.heap.size W w') :=
    fun W hW => equalS_any ns ns' A1 B1 c1 d1 W (hl1.on hW) (hl3.on hW) hn hn'
  have HH : Hid (∀ W : World, Below w.heap.size w W → Calls Tryz.prog 82 #[.slice A2 hs.length c2, .slice B2 hs'.length d2] W fun e w' => e = .returned (.bool (holdsB hs hs')) ∧ Below W.heap.size W w') :=
    fun W hW => equalH_any hs hs' A2 B2 c2 d2 W (hl2.on hW) (hl4.on hW) hh hh'
  have HES : Hid (strsB ns ns' = decide (ns = ns')) := rfl
  have HEH : Hid (holdsB hs hs' = decide (hs = hs')) := rfl
  generalize strsB ns ns' = x1 at *
  generalize holdsB hs hs' = x2 at *
  clear hl1 hl2 hl3 hl4
  by_cases eh : h = h'
  rotate_left
  · have e1 : (h == h') = false := beq_eq_false_iff_ne.2 eh
    have HNN := Lib.hid eh
    clear eh
    have HN : Hid (R = false) := by rw [Hid, HR.out]; exact decide_eq_false (by intro hc; exact HNN.out (by simp_all))
    clear HR HNN HS HH HES HEH
    go_enter Tryz.func28, Tryz.ntmps28
    go_wp2
    go_ret
    exact ⟨ret_bool HN.out.symm, by go_grown⟩
  subst eh
  by_cases el : l = l'
  rotate_left
  · have e1 : (l == l') = false := beq_eq_false_iff_ne.2 el
    have HNN := Lib.hid el
    clear el
    have HN : Hid (R = false) := by rw [Hid, HR.out]; exact decide_eq_false (by intro hc; exact HNN.out (by simp_all))
    clear HR HNN HS HH HES HEH
    go_enter Tryz.func28, Tryz.ntmps28
    go_wp2
    go_ret
    exact ⟨ret_bool HN.out.symm, by go_grown⟩
  subst el
  by_cases eo : o = o'
  rotate_left
  · have e1 : (o == o') = false := beq_eq_false_iff_ne.2 eo
    have HNN := Lib.hid eo
    clear eo
    have HN : Hid (R = false) := by rw [Hid, HR.out]; exact decide_eq_false (by intro hc; exact HNN.out (by simp_all))
    clear HR HNN HS HH HES HEH
    go_enter Tryz.func28, Tryz.ntmps28
    go_wp2
    go_ret
    exact ⟨ret_bool HN.out.symm, by go_grown⟩
  subst eo
  have HX1 : x1 = false → Hid (R = false) := fun hx => by
    rw [Hid, HR.out]
    exact decide_eq_false (fun hc => by have h1 := HES.out; rw [hx] at h1; exact absurd hc.2.2.2.2.2.1 (of_decide_eq_false h1.symm))
  have HX2 : x2 = false → Hid (R = false) := fun hx => by
    rw [Hid, HR.out]
    exact decide_eq_false (fun hc => by have h1 := HEH.out; rw [hx] at h1; exact absurd hc.2.2.2.2.2.2 (of_decide_eq_false h1.symm))
  have HXX : x1 = true → x2 = true → Hid (R = decide (b = b' ∧ f = f')) := fun hx hy => by
    rw [Hid, HR.out]
    have h1 := HES.out
    have h2 := HEH.out
    rw [hx] at h1
    rw [hy] at h2
    have h3 := of_decide_eq_true h1.symm
    have h4 := of_decide_eq_true h2.symm
    simp [h3, h4]
  clear HES HEH HR
  cases x1
  · have HN := HX1 rfl
    clear HX1 HX2 HXX HH
    go_enter Tryz.func28, Tryz.ntmps28
    go_wp2_with fail
    refine (HS.out _ (by go_grown)).mono ?_
    rintro e w1 ⟨rfl, hb1⟩
    have hB : Below w.heap.size w w1 := Below.trans (by go_grown) (hb1.mono (by simp; omega))
    clear hb1
    go_wp2_with fail
    go_ret
    exact ⟨ret_bool HN.out.symm, hB⟩
  · clear HX1
    go_enter Tryz.func28, Tryz.ntmps28
    go_wp2_with fail
    refine (HS.out _ (by go_grown)).mono ?_
    rintro e w1 ⟨rfl, hb1⟩
    have hB : Below w.heap.size w w1 := Below.trans (by go_grown) (hb1.mono (by simp; omega))
    have hz : w.heap.size + 2 ≤ w1.heap.size := by have := hb1.size; simpa using this
    have a4 := kc hb1 (b := w.heap.size) (i := 4) (v := .slice A2 hs.length c2) (by go_simp) (by simp; omega)
    have a5 := kc hb1 (b := w.heap.size) (i := 5) (v := .bool b) (by go_simp) (by simp; omega)
    have a6 := kc hb1 (b := w.heap.size) (i := 6) (v := .int .i64 f) (by go_simp) (by simp; omega)
    have b4 := kc hb1 (b := w.heap.size + 1) (i := 4) (v := .slice B2 hs'.length d2) (by go_simp) (by simp)
    have b5 := kc hb1 (b := w.heap.size + 1) (i := 5) (v := .bool b') (by go_simp) (by simp)
    have b6 := kc hb1 (b := w.heap.size + 1) (i := 6) (v := .int .i64 f') (by go_simp) (by simp)
    clear hb1
    go_wp2_with fail
    refine (HH.out _ hB).mono ?_
    rintro e w2 ⟨rfl, hb2⟩
    replace a5 := kc hb2 a5 (by omega)
    replace a6 := kc hb2 a6 (by omega)
    replace b5 := kc hb2 b5 (by omega)
    replace b6 := kc hb2 b6 (by omega)
    have hB2 := hB.trans (hb2.mono (by omega))
    clear hb2 hB a4 b4
    cases x2
    · have HN := HX2 rfl
      clear HX2 HXX
      go_wp2_with fail
      go_ret
      exact ⟨ret_bool HN.out.symm, hB2⟩
    · have HY := HXX (by trivial) (by trivial)
      clear HX2 HXX
      by_cases ef : f = f'
      · subst ef
        cases b <;> cases b'
        all_goals
          go_wp2_with fail
          go_ret
          exact ⟨ret_bool (by rw [HY.out]; simp), hB2⟩
      · have e1 : (f == f') = false := beq_eq_false_iff_ne.2 ef
        have HNN := Lib.hid ef
        clear ef
        cases b <;> cases b'
        all_goals
          go_wp2_with fail
          go_ret
          exact ⟨ret_bool (by rw [HY.out]; simp [HNN.out]), hB2⟩
end Go.Proofs.YtpncnkihfijmaaaGreatDoor
