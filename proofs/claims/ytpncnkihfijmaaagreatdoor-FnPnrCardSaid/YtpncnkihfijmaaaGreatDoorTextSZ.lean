/-
  spec.PnrText: the walk.
-/
import Derived.Test.YtpncnkihfijmaaaGreatDoorM7
import Derived.Test.YtpncnkihfijmaaaGreatDoorPnrRightSZ
import Derived.Deep.RegionHeld3
namespace Go.Proofs.YtpncnkihfijmaaaGreatDoor
open Go.ChangeShapes Go.WideShapes Go.ChangeAt Go.RowKit Go.ChangeMaps
set_option maxRecDepth 10000
set_option linter.unusedSimpArgs false
set_option linter.unusedVariables false

/-- The box of a booking. -/
abbrev bkCs (h l o : Int) (n : Nat) (A1 : Option Addr) (c1 m : Nat) (A2 : Option Addr) (c2 : Nat) (b : Bool) (f : Int) : Array Value := #[.int .i64 h, .int .i64 l, .int .i64 o, .slice A1 n c1, .slice A2 m c2, .bool b, .int .i64 f]

set_option maxHeartbeats 4000000 in
theorem sPnrText_any (p : PD) (A1 : Option Addr) (c1 : Nat) (A2 : Option Addr) (c2 : Nat) (w : World) (hl : PLies w w.heap.size p A1 A2) (hf : PFit p) (hn : p.names.length ≤ 1099511627) (hh : p.holds.length ≤ 1099511627) :
    Calls Tryz.prog 26 #[pdV p A1 c1 A2 c2] w fun e w' => e = .returned (.string (textT p)) ∧ Below w.heap.size w w' := by
  have HP : Hid (∀ W : World, Below w.heap.size w W → Calls Tryz.prog 30 #[pdV p A1 c1 A2 c2] W fun e w' => e = .returned (.bool (rightB p)) ∧ Below W.heap.size W w') := fun W hW => sPnrRight_any p A1 c1 A2 c2 W (hl.on hW) hf hn hh
  cases hr : rightB p
  · rw [hr] at HP
    have HR : Hid (textT p = ⟨#[]⟩) := by rw [Hid, textT, if_neg (by rw [hr]; simp)]
    clear hl hr
    obtain ⟨h, l, o, ns, hs, b, f⟩ := p
    dsimp only [pdV] at *
    go_enter Tryz.func26, Tryz.ntmps26
    go_wp2_with fail
    refine (HP.out _ (by go_grown)).mono ?_
    rintro e w1 ⟨rfl, hb1⟩
    go_wp2_with fail
    go_ret
    exact ⟨by rw [HR.out]; rfl, boxed hb1⟩
  rw [hr] at HP
  obtain ⟨⟨hH, hO, hL⟩, ⟨hN1, hN2⟩, ⟨hD1, hD2⟩, hF⟩ := right_parts hr
  have HR : Hid (textT p = p.holds.foldl holdT (p.names.foldl nameT (offT p.offer (liveT p.live (headT p.home p.loc p.owner))))) := by rw [Hid, textT, if_pos hr]
  obtain ⟨hl1, hl2⟩ := hl
  clear hf hr
  obtain ⟨h, l, o, ns, hs, b, f⟩ := p
  dsimp only [pdV] at *
  have HG : Hid (∀ k : Nat, ∀ W : World, Below w.heap.size w W → k < ns.length → ∃ b off s, A1 = some ⟨b, off, none⟩ ∧ b < w.heap.size ∧ ns[k]? = some s ∧ wordB s = true ∧ W.cell? ⟨b, off + k, none⟩ = some (.string s)) := fun k W hW hlt => by
    obtain ⟨b, off, s, e, hlb, hx, c0⟩ := (hl1.below hW).str hlt
    exact ⟨b, off, s, e, hlb, hx, hN2 s (List.mem_of_getElem? hx), c0⟩
  have HK : Hid (∀ k : Nat, ∀ W : World, Below w.heap.size w W → k < hs.length → ∃ b off x, A2 = some ⟨b, off, none⟩ ∧ b < w.heap.size ∧ hs[k]? = some x ∧ (wordB x.f = true ∧ seatB x.r x.c = true) ∧ W.cell? ⟨b, off + k * 3, none⟩ = some (.string x.f) ∧ W.cell? ⟨b, off + k * 3 + 1, none⟩ = some (.int .i64 x.r) ∧ W.cell? ⟨b, off + k * 3 + 2, none⟩ = some (.int .i64 x.c)) := fun k W hW hlt => by
    obtain ⟨b, off, x, e, hlb, hx, c0, c1, c2⟩ := (hl2.below hW).hold hlt
    exact ⟨b, off, x, e, hlb, hx, hD2 x (List.mem_of_getElem? hx), c0, c1, c2⟩
  have HS1 : Hid (∀ (t : ByteArray) (k : Nat), k ≤ ns.length → ((ns.take k).foldl nameT t).size ≤ t.size + 40) := fun t k hk => by
    have := namesT_size (ns.take k) t (fun s hs => hN2 s (List.mem_of_mem_take hs))
    have h2 : (ns.take k).length ≤ 4 := by simp; omega
    omega
  have HS2 : Hid (∀ (t : ByteArray) (k : Nat), k ≤ hs.length → ((hs.take k).foldl holdT t).size ≤ t.size + 52) := fun t k hk => by
    have := holdsT_size (hs.take k) t (fun s hs => hD2 s (List.mem_of_mem_take hs))
    have h2 : (hs.take k).length ≤ 4 := by simp; omega
    omega
  have HDh : Hid (∀ W : World, Calls Tryz.prog 79 #[.int .i64 h] W fun e w' => e = .returned (.string (dgT h)) ∧ Below W.heap.size W w') := fun W => dec_any h (by omega) (by omega) W
  have HDl : Hid (∀ W : World, Calls Tryz.prog 79 #[.int .i64 l] W fun e w' => e = .returned (.string (dgT l)) ∧ Below W.heap.size W w') := fun W => dec_any l (by omega) (by omega) W
  have HDo : Hid (∀ W : World, Calls Tryz.prog 79 #[.int .i64 o] W fun e w' => e = .returned (.string (dgT o)) ∧ Below W.heap.size W w') := fun W => dec_any o (by omega) (by omega) W
  have HDf : Hid (∀ W : World, Calls Tryz.prog 79 #[.int .i64 f] W fun e w' => e = .returned (.string (dgT f)) ∧ Below W.heap.size W w') := fun W => dec_any f (by omega) (by omega) W
  have s1 := dgT_size (n := h) (by omega) (by omega)
  have s2 := dgT_size (n := l) (by omega) (by omega)
  have s3 := dgT_size (n := o) (by omega) (by omega)
  have s4 := dgT_size (n := f) (by omega) (by omega)
  have st := headT_size (h := h) (l := l) (o := o) hH hO hL
  have sd : dotA.size = 1 := rfl
  have so : ofA.size = 4 := rfl
  have a1 := add_str (dgT h) dotA (by omega)
  have a2 := add_str (dgT h ++ dotA) (dgT l) (by rw [ByteArray.size_append]; omega)
  have a3 := add_str (dgT h ++ dotA ++ dgT l) ofA (by rw [ByteArray.size_append, ByteArray.size_append]; omega)
  have a4 : ∀ W : World, (Op.stringOp .add (dgT h ++ dotA ++ dgT l ++ ofA) (dgT o)).run Tryz.prog W = .ok (.string (headT h l o)) W := add_str (dgT h ++ dotA ++ dgT l ++ ofA) (dgT o) (by rw [ByteArray.size_append, ByteArray.size_append, ByteArray.size_append]; omega)
  generalize dgT h ++ dotA ++ dgT l ++ ofA = z3 at *
  generalize dgT h ++ dotA ++ dgT l = z2 at *
  generalize dgT h ++ dotA = z1 at *
  generalize headT h l o = t0 at *
  generalize dgT h = gh at *
  generalize dgT l = gl at *
  generalize dgT o = go at *
  clear hl1 hl2 hN2 hD2 s1 s2 s3 sd so hH hO hL
  have sl := liveT_size b t0
  have b1 : ∀ W : World, (Op.stringOp .add t0 (if b then liveA else goneA)).run Tryz.prog W = .ok (.string (liveT b t0)) W := by
    have := add_str t0 (if b then liveA else goneA) (by cases b <;> (show _ + 5 ≤ _; omega))
    cases b <;> exact this
  generalize liveT b t0 = t1 at *
  have hofs := offT_size hF t1
  have hof0 : f = 0 → offT f t1 = t1 := fun h => if_pos h
  have d1 := add_str t1 toA (by show t1.size + 4 ≤ _; omega)
  have d2 : f ≠ 0 → ∀ W : World, (Op.stringOp .add (t1 ++ toA) (dgT f)).run Tryz.prog W = .ok (.string (offT f t1)) W := fun h => by
    have := add_str (t1 ++ toA) (dgT f) (by rw [ByteArray.size_append, s4]; show t1.size + 4 + 1 ≤ _; omega)
    rw [offT, if_neg h]
    exact this
  generalize t1 ++ toA = y1 at *
  generalize dgT f = gf at *
  have D2 := Lib.hid d2
  have HOF := Lib.hid hof0
  clear d2 hof0
  generalize offT f t1 = t2 at *
  go_enter Tryz.func26, Tryz.ntmps26
  go_wp2_with fail
  refine (HP.out _ (by go_grown)).mono ?_
  rintro e w1 ⟨rfl, hb1⟩
  have hB : Below w.heap.size w w1 := boxed hb1
  have X : Block w1 w.heap.size 40 (bkCs h l o ns.length A1 c1 hs.length A2 c2 b f) := (Block.new w _ _).on hb1
  have hz : w.heap.size + 1 ≤ w1.heap.size := X.lt
  have c0 := X.cell 0
  have c1' := X.cell 1
  have c2' := X.cell 2
  have hBd := hB.drew
  have Xd := X.drew
  clear hb1
  go_wp2_with fail
  go_region_held3 (fun W => W.cell? ⟨w.heap.size, 0, none⟩ = some (.int .i64 h) ∧ W.cell? ⟨w.heap.size, 1, none⟩ = some (.int .i64 l) ∧ W.cell? ⟨w.heap.size, 2, none⟩ = some (.int .i64 o) ∧ Block W w.heap.size 40 (bkCs h l o ns.length A1 c1 hs.length A2 c2 b f) ∧ Below w.heap.size w W ∧ w.heap.size + 1 ≤ W.heap.size)
    (first | (go_keep; done) | (go_split_ands; exact ⟨kc hb (by assumption) (by omega), kc hb (by assumption) (by omega), kc hb (by assumption) (by omega), Block.on (by assumption) hb, bstep hb (by assumption) (by omega), zstep hb (by assumption)⟩))
    (first | (go_at_call 79; (first | (with_reducible refine (HDh.out _).mono ?_) | (with_reducible refine (HDl.out _).mono ?_) | (with_reducible refine (HDo.out _).mono ?_)); rintro e w' ⟨rfl, hb⟩))
  clear c0 c1' c2' hB hBd hz X Xd
  rename_i hHeld
  obtain ⟨-, -, -, X, hB, hz⟩ := hHeld
  clear a1 a2 a3 a4
  have q := X.cell

  by_cases hf0 : f = 0
  · have HOF2 := Lib.hid (HOF.out hf0)
    subst hf0
    clear D2 HDf
    cases b
    · have b2 : ∀ W : World, (Op.stringOp .add t0 goneA).run Tryz.prog W = .ok (.string t1) W := b1
      clear b1
      go_wp2_with fail
      clear b2 d1
      go_loop [3, 4] (fun t i => ∃ k : Nat, k ≤ ns.length ∧ i = .int .i64 k ∧ t = .string ((ns.take k).foldl nameT t2)) (fun _ i => ns.length - (intOf i).toNat)
      case atStart => exact ⟨0, Nat.zero_le _, rfl, by rw [HOF2.out]; rfl⟩
      case round =>
        obtain ⟨k, hk, rfl, rfl⟩ := hrel
        have hsz := HS1.out t2 k hk
        by_cases hlt : k < ns.length
        · obtain ⟨bn, offn, s, rfl, hlb, hx, hws, cs⟩ := HG.out k _ hB hlt
          have hss := wordB_le hws
          have HF := Lib.hid (foldl_take_succ nameT t2 hx)
          generalize (ns.take k).foldl nameT t2 = T at *
          have e1 := add_str T plusA (by show T.size + 2 ≤ _; omega)
          have e2 : ∀ W : World, (Op.stringOp .add (T ++ plusA) s).run Tryz.prog W = .ok (.string (nameT T s)) W := add_str (T ++ plusA) s (by rw [ByteArray.size_append]; show T.size + 2 + _ ≤ _; omega)
          generalize T ++ plusA = Y at *
          generalize nameT T s = T2 at *
          clear hx hws hss hsz HG HK HS1 HS2
          go_wp2_with fail
          go_round
          case rel => exact ⟨k + 1, by omega, by go_num, by rw [HF.out]⟩
          case measure => simp [intOf]; omega
        · obtain rfl : k = ns.length := by omega
          rw [List.take_length] at hsz
          have HT3 : Hid ((ns.take ns.length).foldl nameT t2 = ns.foldl nameT t2) := by rw [Hid, List.take_length]
          rw [HT3.out]
          generalize ns.foldl nameT t2 = t3 at *
          go_wp2_with fail
          go_loopw [3, 5] (fun t i W => ∃ k : Nat, k ≤ hs.length ∧ i = .int .i64 k ∧ t = .string ((hs.take k).foldl holdT t3) ∧ Block W w.heap.size 40 (bkCs h l o ns.length A1 c1 hs.length A2 c2 false 0) ∧ Below w.heap.size w W) (fun _ i _ => hs.length - (intOf i).toNat)
          case atStart => exact ⟨0, Nat.zero_le _, rfl, rfl, X, hB⟩
          case round =>
            obtain ⟨k, hk, rfl, rfl, X', hB'⟩ := hrel
            have hsz2 := HS2.out t3 k hk
            have q' := X'.cell
            have hz' : w.heap.size + 1 ≤ wr.heap.size := X'.lt
            by_cases hlt : k < hs.length
            · obtain ⟨bn, offn, x, rfl, hlb, hx, ⟨hws, hse⟩, k0, k1, k2⟩ := HK.out k _ hB' hlt
              have hss := wordB_le hws
              have hst := seatT_size hse
              have HL2 : Hid (∀ W : World, Calls Tryz.prog 80 #[seatV x.r x.c] W fun e w' => e = .returned (.string (seatT x.r x.c)) ∧ Below W.heap.size W w') := fun W => l02T_any x.r x.c hse W
              have HF := Lib.hid (foldl_take_succ holdT t3 hx)
              generalize (hs.take k).foldl holdT t3 = T at *
              have e1 := add_str T spA (by show T.size + 1 ≤ _; omega)
              have e2 := add_str (T ++ spA) x.f (by rw [ByteArray.size_append]; show T.size + 1 + _ ≤ _; omega)
              have e3 := add_str (T ++ spA ++ x.f) colA (by rw [ByteArray.size_append, ByteArray.size_append]; show T.size + 1 + _ + 1 ≤ _; omega)
              have e4 : ∀ W : World, (Op.stringOp .add (T ++ spA ++ x.f ++ colA) (seatT x.r x.c)).run Tryz.prog W = .ok (.string (holdT T x)) W := add_str (T ++ spA ++ x.f ++ colA) (seatT x.r x.c) (by rw [ByteArray.size_append, ByteArray.size_append, ByteArray.size_append]; show T.size + 1 + _ + 1 + _ ≤ _; omega)
              generalize T ++ spA ++ x.f ++ colA = Y3 at *
              generalize T ++ spA ++ x.f = Y2 at *
              generalize T ++ spA = Y1 at *
              generalize holdT T x = T2 at *
              obtain ⟨xf, xr, xc⟩ := x
              dsimp only at *
              generalize seatT xr xc = sx at *
              have q4 := X'.cell 4
              have hBd := hB'.drew
              have Xd := X'.drew
              clear hx hws hse hss hst hsz2 HG HK HS1 HS2 X hB q hz q'
              go_wp2_with fail
              go_region_held3 (fun W => W.cell? ⟨w.heap.size, 4, none⟩ = some (.slice (some ⟨bn, offn, none⟩) hs.length c2) ∧ W.cell? ⟨bn, offn + k * 3, none⟩ = some (.string xf) ∧ W.cell? ⟨bn, offn + k * 3 + 1, none⟩ = some (.int .i64 xr) ∧ W.cell? ⟨bn, offn + k * 3 + 2, none⟩ = some (.int .i64 xc) ∧ Block W w.heap.size 40 (bkCs h l o ns.length A1 c1 hs.length (some ⟨bn, offn, none⟩) c2 false 0) ∧ Below w.heap.size w W ∧ w.heap.size + 1 ≤ W.heap.size)
                (first | (go_keep; done) | (go_split_ands; exact ⟨kc hb (by assumption) (by omega), kc hb (by assumption) (by omega), kc hb (by assumption) (by omega), kc hb (by assumption) (by omega), Block.on (by assumption) hb, bstep hb (by assumption) (by omega), zstep hb (by assumption)⟩))
                (first | (go_at_call 80; refine (HL2.out _).mono ?_; rintro e w' ⟨rfl, hb⟩))
              clear k0 k1 k2 q4 hB' hBd hz' X' Xd
              rename_i hHeld
              obtain ⟨-, -, -, -, X', hB', hz'⟩ := hHeld
              go_wp2_with fail
              go_roundw
              case rel => exact ⟨k + 1, by omega, by go_num, by rw [HF.out], X', hB'⟩
              case measure => simp [intOf]; omega
            · obtain rfl : k = hs.length := by omega
              have HT4 : Hid ((hs.take hs.length).foldl holdT t3 = hs.foldl holdT t3) := by rw [Hid, List.take_length]
              rw [HT4.out]
              clear HG HK HS1 HS2
              go_wp2_with fail
              go_ret
              exact ⟨by rw [HR.out]; rfl, hB'⟩
    · have b2 : ∀ W : World, (Op.stringOp .add t0 liveA).run Tryz.prog W = .ok (.string t1) W := b1
      clear b1
      go_wp2_with fail
      clear b2 d1
      go_loop [3, 4] (fun t i => ∃ k : Nat, k ≤ ns.length ∧ i = .int .i64 k ∧ t = .string ((ns.take k).foldl nameT t2)) (fun _ i => ns.length - (intOf i).toNat)
      case atStart => exact ⟨0, Nat.zero_le _, rfl, by rw [HOF2.out]; rfl⟩
      case round =>
        obtain ⟨k, hk, rfl, rfl⟩ := hrel
        have hsz := HS1.out t2 k hk
        by_cases hlt : k < ns.length
        · obtain ⟨bn, offn, s, rfl, hlb, hx, hws, cs⟩ := HG.out k _ hB hlt
          have hss := wordB_le hws
          have HF := Lib.hid (foldl_take_succ nameT t2 hx)
          generalize (ns.take k).foldl nameT t2 = T at *
          have e1 := add_str T plusA (by show T.size + 2 ≤ _; omega)
          have e2 : ∀ W : World, (Op.stringOp .add (T ++ plusA) s).run Tryz.prog W = .ok (.string (nameT T s)) W := add_str (T ++ plusA) s (by rw [ByteArray.size_append]; show T.size + 2 + _ ≤ _; omega)
          generalize T ++ plusA = Y at *
          generalize nameT T s = T2 at *
          clear hx hws hss hsz HG HK HS1 HS2
          go_wp2_with fail
          go_round
          case rel => exact ⟨k + 1, by omega, by go_num, by rw [HF.out]⟩
          case measure => simp [intOf]; omega
        · obtain rfl : k = ns.length := by omega
          rw [List.take_length] at hsz
          have HT3 : Hid ((ns.take ns.length).foldl nameT t2 = ns.foldl nameT t2) := by rw [Hid, List.take_length]
          rw [HT3.out]
          generalize ns.foldl nameT t2 = t3 at *
          go_wp2_with fail
          go_loopw [3, 5] (fun t i W => ∃ k : Nat, k ≤ hs.length ∧ i = .int .i64 k ∧ t = .string ((hs.take k).foldl holdT t3) ∧ Block W w.heap.size 40 (bkCs h l o ns.length A1 c1 hs.length A2 c2 true 0) ∧ Below w.heap.size w W) (fun _ i _ => hs.length - (intOf i).toNat)
          case atStart => exact ⟨0, Nat.zero_le _, rfl, rfl, X, hB⟩
          case round =>
            obtain ⟨k, hk, rfl, rfl, X', hB'⟩ := hrel
            have hsz2 := HS2.out t3 k hk
            have q' := X'.cell
            have hz' : w.heap.size + 1 ≤ wr.heap.size := X'.lt
            by_cases hlt : k < hs.length
            · obtain ⟨bn, offn, x, rfl, hlb, hx, ⟨hws, hse⟩, k0, k1, k2⟩ := HK.out k _ hB' hlt
              have hss := wordB_le hws
              have hst := seatT_size hse
              have HL2 : Hid (∀ W : World, Calls Tryz.prog 80 #[seatV x.r x.c] W fun e w' => e = .returned (.string (seatT x.r x.c)) ∧ Below W.heap.size W w') := fun W => l02T_any x.r x.c hse W
              have HF := Lib.hid (foldl_take_succ holdT t3 hx)
              generalize (hs.take k).foldl holdT t3 = T at *
              have e1 := add_str T spA (by show T.size + 1 ≤ _; omega)
              have e2 := add_str (T ++ spA) x.f (by rw [ByteArray.size_append]; show T.size + 1 + _ ≤ _; omega)
              have e3 := add_str (T ++ spA ++ x.f) colA (by rw [ByteArray.size_append, ByteArray.size_append]; show T.size + 1 + _ + 1 ≤ _; omega)
              have e4 : ∀ W : World, (Op.stringOp .add (T ++ spA ++ x.f ++ colA) (seatT x.r x.c)).run Tryz.prog W = .ok (.string (holdT T x)) W := add_str (T ++ spA ++ x.f ++ colA) (seatT x.r x.c) (by rw [ByteArray.size_append, ByteArray.size_append, ByteArray.size_append]; show T.size + 1 + _ + 1 + _ ≤ _; omega)
              generalize T ++ spA ++ x.f ++ colA = Y3 at *
              generalize T ++ spA ++ x.f = Y2 at *
              generalize T ++ spA = Y1 at *
              generalize holdT T x = T2 at *
              obtain ⟨xf, xr, xc⟩ := x
              dsimp only at *
              generalize seatT xr xc = sx at *
              have q4 := X'.cell 4
              have hBd := hB'.drew
              have Xd := X'.drew
              clear hx hws hse hss hst hsz2 HG HK HS1 HS2 X hB q hz q'
              go_wp2_with fail
              go_region_held3 (fun W => W.cell? ⟨w.heap.size, 4, none⟩ = some (.slice (some ⟨bn, offn, none⟩) hs.length c2) ∧ W.cell? ⟨bn, offn + k * 3, none⟩ = some (.string xf) ∧ W.cell? ⟨bn, offn + k * 3 + 1, none⟩ = some (.int .i64 xr) ∧ W.cell? ⟨bn, offn + k * 3 + 2, none⟩ = some (.int .i64 xc) ∧ Block W w.heap.size 40 (bkCs h l o ns.length A1 c1 hs.length (some ⟨bn, offn, none⟩) c2 true 0) ∧ Below w.heap.size w W ∧ w.heap.size + 1 ≤ W.heap.size)
                (first | (go_keep; done) | (go_split_ands; exact ⟨kc hb (by assumption) (by omega), kc hb (by assumption) (by omega), kc hb (by assumption) (by omega), kc hb (by assumption) (by omega), Block.on (by assumption) hb, bstep hb (by assumption) (by omega), zstep hb (by assumption)⟩))
                (first | (go_at_call 80; refine (HL2.out _).mono ?_; rintro e w' ⟨rfl, hb⟩))
              clear k0 k1 k2 q4 hB' hBd hz' X' Xd
              rename_i hHeld
              obtain ⟨-, -, -, -, X', hB', hz'⟩ := hHeld
              go_wp2_with fail
              go_roundw
              case rel => exact ⟨k + 1, by omega, by go_num, by rw [HF.out], X', hB'⟩
              case measure => simp [intOf]; omega
            · obtain rfl : k = hs.length := by omega
              have HT4 : Hid ((hs.take hs.length).foldl holdT t3 = hs.foldl holdT t3) := by rw [Hid, List.take_length]
              rw [HT4.out]
              clear HG HK HS1 HS2
              go_wp2_with fail
              go_ret
              exact ⟨by rw [HR.out]; rfl, hB'⟩
  · have D3 := D2.out hf0
    have hf0' : (f == 0) = false := beq_eq_false_iff_ne.2 hf0
    clear D2 HOF
    cases b
    · have b2 : ∀ W : World, (Op.stringOp .add t0 goneA).run Tryz.prog W = .ok (.string t1) W := b1
      clear b1
      go_wp2_with fail
      refine (HDf.out _).mono ?_
      rintro e w3 ⟨rfl, hb3⟩
      replace hB := hB.trans (hb3.mono hB.size)
      replace X := X.on hb3
      replace q := X.cell
      clear hb3
      go_wp2_with fail
      clear b2 d1 D3
      go_loop [3, 4] (fun t i => ∃ k : Nat, k ≤ ns.length ∧ i = .int .i64 k ∧ t = .string ((ns.take k).foldl nameT t2)) (fun _ i => ns.length - (intOf i).toNat)
      case atStart => exact ⟨0, Nat.zero_le _, rfl, rfl⟩
      case round =>
        obtain ⟨k, hk, rfl, rfl⟩ := hrel
        have hsz := HS1.out t2 k hk
        by_cases hlt : k < ns.length
        · obtain ⟨bn, offn, s, rfl, hlb, hx, hws, cs⟩ := HG.out k _ hB hlt
          have hss := wordB_le hws
          have HF := Lib.hid (foldl_take_succ nameT t2 hx)
          generalize (ns.take k).foldl nameT t2 = T at *
          have e1 := add_str T plusA (by show T.size + 2 ≤ _; omega)
          have e2 : ∀ W : World, (Op.stringOp .add (T ++ plusA) s).run Tryz.prog W = .ok (.string (nameT T s)) W := add_str (T ++ plusA) s (by rw [ByteArray.size_append]; show T.size + 2 + _ ≤ _; omega)
          generalize T ++ plusA = Y at *
          generalize nameT T s = T2 at *
          clear hx hws hss hsz HG HK HS1 HS2
          go_wp2_with fail
          go_round
          case rel => exact ⟨k + 1, by omega, by go_num, by rw [HF.out]⟩
          case measure => simp [intOf]; omega
        · obtain rfl : k = ns.length := by omega
          rw [List.take_length] at hsz
          have HT3 : Hid ((ns.take ns.length).foldl nameT t2 = ns.foldl nameT t2) := by rw [Hid, List.take_length]
          rw [HT3.out]
          generalize ns.foldl nameT t2 = t3 at *
          go_wp2_with fail
          go_loopw [3, 5] (fun t i W => ∃ k : Nat, k ≤ hs.length ∧ i = .int .i64 k ∧ t = .string ((hs.take k).foldl holdT t3) ∧ Block W w.heap.size 40 (bkCs h l o ns.length A1 c1 hs.length A2 c2 false f) ∧ Below w.heap.size w W) (fun _ i _ => hs.length - (intOf i).toNat)
          case atStart => exact ⟨0, Nat.zero_le _, rfl, rfl, X, hB⟩
          case round =>
            obtain ⟨k, hk, rfl, rfl, X', hB'⟩ := hrel
            have hsz2 := HS2.out t3 k hk
            have q' := X'.cell
            have hz' : w.heap.size + 1 ≤ wr.heap.size := X'.lt
            by_cases hlt : k < hs.length
            · obtain ⟨bn, offn, x, rfl, hlb, hx, ⟨hws, hse⟩, k0, k1, k2⟩ := HK.out k _ hB' hlt
              have hss := wordB_le hws
              have hst := seatT_size hse
              have HL2 : Hid (∀ W : World, Calls Tryz.prog 80 #[seatV x.r x.c] W fun e w' => e = .returned (.string (seatT x.r x.c)) ∧ Below W.heap.size W w') := fun W => l02T_any x.r x.c hse W
              have HF := Lib.hid (foldl_take_succ holdT t3 hx)
              generalize (hs.take k).foldl holdT t3 = T at *
              have e1 := add_str T spA (by show T.size + 1 ≤ _; omega)
              have e2 := add_str (T ++ spA) x.f (by rw [ByteArray.size_append]; show T.size + 1 + _ ≤ _; omega)
              have e3 := add_str (T ++ spA ++ x.f) colA (by rw [ByteArray.size_append, ByteArray.size_append]; show T.size + 1 + _ + 1 ≤ _; omega)
              have e4 : ∀ W : World, (Op.stringOp .add (T ++ spA ++ x.f ++ colA) (seatT x.r x.c)).run Tryz.prog W = .ok (.string (holdT T x)) W := add_str (T ++ spA ++ x.f ++ colA) (seatT x.r x.c) (by rw [ByteArray.size_append, ByteArray.size_append, ByteArray.size_append]; show T.size + 1 + _ + 1 + _ ≤ _; omega)
              generalize T ++ spA ++ x.f ++ colA = Y3 at *
              generalize T ++ spA ++ x.f = Y2 at *
              generalize T ++ spA = Y1 at *
              generalize holdT T x = T2 at *
              obtain ⟨xf, xr, xc⟩ := x
              dsimp only at *
              generalize seatT xr xc = sx at *
              have q4 := X'.cell 4
              have hBd := hB'.drew
              have Xd := X'.drew
              clear hx hws hse hss hst hsz2 HG HK HS1 HS2 X hB q hz q'
              go_wp2_with fail
              go_region_held3 (fun W => W.cell? ⟨w.heap.size, 4, none⟩ = some (.slice (some ⟨bn, offn, none⟩) hs.length c2) ∧ W.cell? ⟨bn, offn + k * 3, none⟩ = some (.string xf) ∧ W.cell? ⟨bn, offn + k * 3 + 1, none⟩ = some (.int .i64 xr) ∧ W.cell? ⟨bn, offn + k * 3 + 2, none⟩ = some (.int .i64 xc) ∧ Block W w.heap.size 40 (bkCs h l o ns.length A1 c1 hs.length (some ⟨bn, offn, none⟩) c2 false f) ∧ Below w.heap.size w W ∧ w.heap.size + 1 ≤ W.heap.size)
                (first | (go_keep; done) | (go_split_ands; exact ⟨kc hb (by assumption) (by omega), kc hb (by assumption) (by omega), kc hb (by assumption) (by omega), kc hb (by assumption) (by omega), Block.on (by assumption) hb, bstep hb (by assumption) (by omega), zstep hb (by assumption)⟩))
                (first | (go_at_call 80; refine (HL2.out _).mono ?_; rintro e w' ⟨rfl, hb⟩))
              clear k0 k1 k2 q4 hB' hBd hz' X' Xd
              rename_i hHeld
              obtain ⟨-, -, -, -, X', hB', hz'⟩ := hHeld
              go_wp2_with fail
              go_roundw
              case rel => exact ⟨k + 1, by omega, by go_num, by rw [HF.out], X', hB'⟩
              case measure => simp [intOf]; omega
            · obtain rfl : k = hs.length := by omega
              have HT4 : Hid ((hs.take hs.length).foldl holdT t3 = hs.foldl holdT t3) := by rw [Hid, List.take_length]
              rw [HT4.out]
              clear HG HK HS1 HS2
              go_wp2_with fail
              go_ret
              exact ⟨by rw [HR.out]; rfl, hB'⟩
    · have b2 : ∀ W : World, (Op.stringOp .add t0 liveA).run Tryz.prog W = .ok (.string t1) W := b1
      clear b1
      go_wp2_with fail
      refine (HDf.out _).mono ?_
      rintro e w3 ⟨rfl, hb3⟩
      replace hB := hB.trans (hb3.mono hB.size)
      replace X := X.on hb3
      replace q := X.cell
      clear hb3
      go_wp2_with fail
      clear b2 d1 D3
      go_loop [3, 4] (fun t i => ∃ k : Nat, k ≤ ns.length ∧ i = .int .i64 k ∧ t = .string ((ns.take k).foldl nameT t2)) (fun _ i => ns.length - (intOf i).toNat)
      case atStart => exact ⟨0, Nat.zero_le _, rfl, rfl⟩
      case round =>
        obtain ⟨k, hk, rfl, rfl⟩ := hrel
        have hsz := HS1.out t2 k hk
        by_cases hlt : k < ns.length
        · obtain ⟨bn, offn, s, rfl, hlb, hx, hws, cs⟩ := HG.out k _ hB hlt
          have hss := wordB_le hws
          have HF := Lib.hid (foldl_take_succ nameT t2 hx)
          generalize (ns.take k).foldl nameT t2 = T at *
          have e1 := add_str T plusA (by show T.size + 2 ≤ _; omega)
          have e2 : ∀ W : World, (Op.stringOp .add (T ++ plusA) s).run Tryz.prog W = .ok (.string (nameT T s)) W := add_str (T ++ plusA) s (by rw [ByteArray.size_append]; show T.size + 2 + _ ≤ _; omega)
          generalize T ++ plusA = Y at *
          generalize nameT T s = T2 at *
          clear hx hws hss hsz HG HK HS1 HS2
          go_wp2_with fail
          go_round
          case rel => exact ⟨k + 1, by omega, by go_num, by rw [HF.out]⟩
          case measure => simp [intOf]; omega
        · obtain rfl : k = ns.length := by omega
          rw [List.take_length] at hsz
          have HT3 : Hid ((ns.take ns.length).foldl nameT t2 = ns.foldl nameT t2) := by rw [Hid, List.take_length]
          rw [HT3.out]
          generalize ns.foldl nameT t2 = t3 at *
          go_wp2_with fail
          go_loopw [3, 5] (fun t i W => ∃ k : Nat, k ≤ hs.length ∧ i = .int .i64 k ∧ t = .string ((hs.take k).foldl holdT t3) ∧ Block W w.heap.size 40 (bkCs h l o ns.length A1 c1 hs.length A2 c2 true f) ∧ Below w.heap.size w W) (fun _ i _ => hs.length - (intOf i).toNat)
          case atStart => exact ⟨0, Nat.zero_le _, rfl, rfl, X, hB⟩
          case round =>
            obtain ⟨k, hk, rfl, rfl, X', hB'⟩ := hrel
            have hsz2 := HS2.out t3 k hk
            have q' := X'.cell
            have hz' : w.heap.size + 1 ≤ wr.heap.size := X'.lt
            by_cases hlt : k < hs.length
            · obtain ⟨bn, offn, x, rfl, hlb, hx, ⟨hws, hse⟩, k0, k1, k2⟩ := HK.out k _ hB' hlt
              have hss := wordB_le hws
              have hst := seatT_size hse
              have HL2 : Hid (∀ W : World, Calls Tryz.prog 80 #[seatV x.r x.c] W fun e w' => e = .returned (.string (seatT x.r x.c)) ∧ Below W.heap.size W w') := fun W => l02T_any x.r x.c hse W
              have HF := Lib.hid (foldl_take_succ holdT t3 hx)
              generalize (hs.take k).foldl holdT t3 = T at *
              have e1 := add_str T spA (by show T.size + 1 ≤ _; omega)
              have e2 := add_str (T ++ spA) x.f (by rw [ByteArray.size_append]; show T.size + 1 + _ ≤ _; omega)
              have e3 := add_str (T ++ spA ++ x.f) colA (by rw [ByteArray.size_append, ByteArray.size_append]; show T.size + 1 + _ + 1 ≤ _; omega)
              have e4 : ∀ W : World, (Op.stringOp .add (T ++ spA ++ x.f ++ colA) (seatT x.r x.c)).run Tryz.prog W = .ok (.string (holdT T x)) W := add_str (T ++ spA ++ x.f ++ colA) (seatT x.r x.c) (by rw [ByteArray.size_append, ByteArray.size_append, ByteArray.size_append]; show T.size + 1 + _ + 1 + _ ≤ _; omega)
              generalize T ++ spA ++ x.f ++ colA = Y3 at *
              generalize T ++ spA ++ x.f = Y2 at *
              generalize T ++ spA = Y1 at *
              generalize holdT T x = T2 at *
              obtain ⟨xf, xr, xc⟩ := x
              dsimp only at *
              generalize seatT xr xc = sx at *
              have q4 := X'.cell 4
              have hBd := hB'.drew
              have Xd := X'.drew
              clear hx hws hse hss hst hsz2 HG HK HS1 HS2 X hB q hz q'
              go_wp2_with fail
              go_region_held3 (fun W => W.cell? ⟨w.heap.size, 4, none⟩ = some (.slice (some ⟨bn, offn, none⟩) hs.length c2) ∧ W.cell? ⟨bn, offn + k * 3, none⟩ = some (.string xf) ∧ W.cell? ⟨bn, offn + k * 3 + 1, none⟩ = some (.int .i64 xr) ∧ W.cell? ⟨bn, offn + k * 3 + 2, none⟩ = some (.int .i64 xc) ∧ Block W w.heap.size 40 (bkCs h l o ns.length A1 c1 hs.length (some ⟨bn, offn, none⟩) c2 true f) ∧ Below w.heap.size w W ∧ w.heap.size + 1 ≤ W.heap.size)
                (first | (go_keep; done) | (go_split_ands; exact ⟨kc hb (by assumption) (by omega), kc hb (by assumption) (by omega), kc hb (by assumption) (by omega), kc hb (by assumption) (by omega), Block.on (by assumption) hb, bstep hb (by assumption) (by omega), zstep hb (by assumption)⟩))
                (first | (go_at_call 80; refine (HL2.out _).mono ?_; rintro e w' ⟨rfl, hb⟩))
              clear k0 k1 k2 q4 hB' hBd hz' X' Xd
              rename_i hHeld
              obtain ⟨-, -, -, -, X', hB', hz'⟩ := hHeld
              go_wp2_with fail
              go_roundw
              case rel => exact ⟨k + 1, by omega, by go_num, by rw [HF.out], X', hB'⟩
              case measure => simp [intOf]; omega
            · obtain rfl : k = hs.length := by omega
              have HT4 : Hid ((hs.take hs.length).foldl holdT t3 = hs.foldl holdT t3) := by rw [Hid, List.take_length]
              rw [HT4.out]
              clear HG HK HS1 HS2
              go_wp2_with fail
              go_ret
              exact ⟨by rw [HR.out]; rfl, hB'⟩
end Go.Proofs.YtpncnkihfijmaaaGreatDoor
