/-
  spec.PnrText: the walk. append and copy at elements of some cells each: the source whatever reads as a list, nil let in. Over any program. append as one step of a region that draws; what a block holds, read as a list.
-/
import Derived.Test.YtihlilihipcfaaaGreatDoorM5
import Derived.Deep.RegionHeld3
import Derived.Test.YtihlilihipcfaaaGreatDoorM1
import Derived.Laws.CopyRow
import Derived.Lib.AppendZerosOnto
import Derived.Test.YtihlilihipcfaaaGreatDoorM2
import Derived.Deep.RegionLaw
namespace Go.Proofs.YtihlilihipcfaaaGreatDoor
open Go.ChangeShapes Go.WideShapes Go.ChangeAt Go.RowKit Go.ChangeMaps
set_option maxRecDepth 10000
set_option linter.unusedSimpArgs false
set_option linter.unusedVariables false

theorem add_str (a b : ByteArray) (h : a.size + b.size ≤ 1000) : ∀ W : World, (Op.stringOp .add a b).run Tryz.prog W = .ok (.string (a ++ b)) W := fun W => run_string_add_sum _ _ _ (by omega)
theorem dec_any (n : Int) (h0 : 0 ≤ n) (h1 : n < 10) (W : World) : Calls Tryz.prog 80 #[.int .i64 n] W fun e w' => e = .returned (.string (dgT n)) ∧ Below W.heap.size W w' := by
  obtain ⟨m, rfl⟩ := nat_of h0
  exact l01Dec_nat m W (by omega)
theorem l02T_any (r c : Int) (h : seatB r c = true) (W : World) : Calls Tryz.prog 81 #[seatV r c] W fun e w' => e = .returned (.string (seatT r c)) ∧ Below W.heap.size W w' := by
  obtain ⟨⟨r1, r2⟩, c1, c2⟩ := seatB_parts h
  have hS : seatT r c = ⟨(Lib.decDigits r.toNat ++ [UInt8.ofNat (97 + c.toNat)]).toArray⟩ := by rw [seatT, seatTextL, if_pos h]
  rw [hS]
  obtain ⟨r, rfl⟩ := nat_of (show 0 ≤ r by omega)
  obtain ⟨c, rfl⟩ := nat_of c1
  exact l02Text_any r c W (by omega) (by omega)

/-- The box of a booking. -/
abbrev bkCs (h l o : Int) (n : Nat) (A1 : Option Addr) (c1 m : Nat) (A2 : Option Addr) (c2 : Nat) (b : Bool) (f : Int) : Array Value := #[.int .i64 h, .int .i64 l, .int .i64 o, .slice A1 n c1, .slice A2 m c2, .bool b, .int .i64 f]

set_option maxHeartbeats 4000000 in
theorem sPnrText_any (p : PD) (A1 : Option Addr) (c1 : Nat) (A2 : Option Addr) (c2 : Nat) (w : World) (hl : PLies w w.heap.size p A1 A2) (hf : PFit p) (hn : p.names.length ≤ 1099511627) (hh : p.holds.length ≤ 1099511627) :
    Calls Tryz.prog 29 #[pdV p A1 c1 A2 c2] w fun e w' => e = .returned (.string (textT p)) ∧ Below w.heap.size w w' := by
  have HP : Hid (∀ W : World, Below w.heap.size w W → Calls Tryz.prog 33 #[pdV p A1 c1 A2 c2] W fun e w' => e = .returned (.bool (rightB p)) ∧ Below W.heap.size W w') := fun W hW => sPnrRight_any p A1 c1 A2 c2 W (hl.on hW) hf hn hh
  cases hr : rightB p
  · rw [hr] at HP
    have HR : Hid (textT p = ⟨#[]⟩) := by rw [Hid, textT, if_neg (by rw [hr]; simp)]
    clear hl hr
    obtain ⟨h, l, o, ns, hs, b, f⟩ := p
    dsimp only [pdV] at *
    go_enter Tryz.func29, Tryz.ntmps29
    go_wp2_with fail
    refine (HP.out _ (by go_grown)).mono ?_
    rintro e w1 ⟨rfl, hb1⟩
    go_wp2_with fail
    go_ret
    exact ⟨by rw [HR.out]; rfl, boxed hb1⟩
  rw [hr] at HP
  obtain ⟨⟨hH, hO, hL⟩, ⟨hN1, hN2⟩, ⟨hD1, hD2⟩, hF⟩ := right_parts hr
  have HR : Hid (textT p = p.holds.foldl holdT (p.names.foldl nameT (offT p.offer (liveT p.live (headT p.home p.loc p.owner))))) := by rw [Hid, textT, if_pos hr]
  obtain ⟨hl1, hl2⟩ := hl
  clear hf hr
  obtain ⟨h, l, o, ns, hs, b, f⟩ := p
  dsimp only [pdV] at *
  have HG : Hid (∀ k : Nat, ∀ W : World, Below w.heap.size w W → k < ns.length → ∃ b off s, A1 = some ⟨b, off, none⟩ ∧ b < w.heap.size ∧ ns[k]? = some s ∧ wordB s = true ∧ W.cell? ⟨b, off + k, none⟩ = some (.string s)) := fun k W hW hlt => by
    obtain ⟨b, off, s, e, hlb, hx, c0⟩ := (hl1.below hW).str hlt
    exact ⟨b, off, s, e, hlb, hx, hN2 s (List.mem_of_getElem? hx), c0⟩
  have HK : Hid (∀ k : Nat, ∀ W : World, Below w.heap.size w W → k < hs.length → ∃ b off x, A2 = some ⟨b, off, none⟩ ∧ b < w.heap.size ∧ hs[k]? = some x ∧ (wordB x.f = true ∧ seatB x.r x.c = true) ∧ W.cell? ⟨b, off + k * 3, none⟩ = some (.string x.f) ∧ W.cell? ⟨b, off + k * 3 + 1, none⟩ = some (.int .i64 x.r) ∧ W.cell? ⟨b, off + k * 3 + 2, none⟩ = some (.int .i64 x.c)) := fun k W hW hlt => by
    obtain ⟨b, off, x, e, hlb, hx, c0, c1, c2⟩ := (hl2.below hW).hold hlt
    exact ⟨b, off, x, e, hlb, hx, hD2 x (List.mem_of_getElem? hx), c0, c1, c2⟩
  have HS1 : Hid (∀ (t : ByteArray) (k : Nat), k ≤ ns.length → ((ns.take k).foldl nameT t).size ≤ t.size + 40) := fun t k hk => by
    have := namesT_size (ns.take k) t (fun s hs => hN2 s (List.mem_of_mem_take hs))
    have h2 : (ns.take k).length ≤ 4 := by simp; omega
    omega
  have HS2 : Hid (∀ (t : ByteArray) (k : Nat), k ≤ hs.length → ((hs.take k).foldl holdT t).size ≤ t.size + 52) := fun t k hk => by
    have := holdsT_size (hs.take k) t (fun s hs => hD2 s (List.mem_of_mem_take hs))
    have h2 : (hs.take k).length ≤ 4 := by simp; omega
    omega
  have HDh : Hid (∀ W : World, Calls Tryz.prog 80 #[.int .i64 h] W fun e w' => e = .returned (.string (dgT h)) ∧ Below W.heap.size W w') := fun W => dec_any h (by omega) (by omega) W
  have HDl : Hid (∀ W : World, Calls Tryz.prog 80 #[.int .i64 l] W fun e w' => e = .returned (.string (dgT l)) ∧ Below W.heap.size W w') := fun W => dec_any l (by omega) (by omega) W
  have HDo : Hid (∀ W : World, Calls Tryz.prog 80 #[.int .i64 o] W fun e w' => e = .returned (.string (dgT o)) ∧ Below W.heap.size W w') := fun W => dec_any o (by omega) (by omega) W
  have HDf : Hid (∀ W : World, Calls Tryz.prog 80 #[.int .i64 f] W fun e w' => e = .returned (.string (dgT f)) ∧ Below W.heap.size W w') := fun W => dec_any f (by omega) (by omega) W
  have s1 := dgT_size (n := h) (by omega) (by omega)
  have s2 := dgT_size (n := l) (by omega) (by omega)
  have s3 := dgT_size (n := o) (by omega) (by omega)
  have s4 := dgT_size (n := f) (by omega) (by omega)
  have st := headT_size (h := h) (l := l) (o := o) hH hO hL
  have sd : dotA.size = 1 := rfl
  have so : ofA.size = 4 := rfl
  have a1 := add_str (dgT h) dotA (by omega)
  have a2 := add_str (dgT h ++ dotA) (dgT l) (by rw [ByteArray.size_append]; omega)
  have a3 := add_str (dgT h ++ dotA ++ dgT l) ofA (by rw [ByteArray.size_append, ByteArray.size_append]; omega)
  have a4 : ∀ W : World, (Op.stringOp .add (dgT h ++ dotA ++ dgT l ++ ofA) (dgT o)).run Tryz.prog W = .ok (.string (headT h l o)) W := add_str (dgT h ++ dotA ++ dgT l ++ ofA) (dgT o) (by rw [ByteArray.size_append, ByteArray.size_append, ByteArray.size_append]; omega)
  generalize dgT h ++ dotA ++ dgT l ++ ofA = z3 at *
  generalize dgT h ++ dotA ++ dgT l = z2 at *
  generalize dgT h ++ dotA = z1 at *
  generalize headT h l o = t0 at *
  generalize dgT h = gh at *
  generalize dgT l = gl at *
  generalize dgT o = go at *
  clear hl1 hl2 hN2 hD2 s1 s2 s3 sd so hH hO hL
  have sl := liveT_size b t0
  have b1 : ∀ W : World, (Op.stringOp .add t0 (if b then liveA else goneA)).run Tryz.prog W = .ok (.string (liveT b t0)) W := by
    have := add_str t0 (if b then liveA else goneA) (by cases b <;> (show _ + 5 ≤ _; omega))
    cases b <;> exact this
  generalize liveT b t0 = t1 at *
  have hofs := offT_size hF t1
  have hof0 : f = 0 → offT f t1 = t1 := fun h => if_pos h
  have d1 := add_str t1 toA (by show t1.size + 4 ≤ _; omega)
  have d2 : f ≠ 0 → ∀ W : World, (Op.stringOp .add (t1 ++ toA) (dgT f)).run Tryz.prog W = .ok (.string (offT f t1)) W := fun h => by
    have := add_str (t1 ++ toA) (dgT f) (by rw [ByteArray.size_append, s4]; show t1.size + 4 + 1 ≤ _; omega)
    rw [offT, if_neg h]
    exact this
  generalize t1 ++ toA = y1 at *
  generalize dgT f = gf at *
  have D2 := Lib.hid d2
  have HOF := Lib.hid hof0
  clear d2 hof0
  generalize offT f t1 = t2 at *
  go_enter Tryz.func29, Tryz.ntmps29
  go_wp2_with fail
  refine (HP.out _ (by go_grown)).mono ?_
  rintro e w1 ⟨rfl, hb1⟩
  have hB : Below w.heap.size w w1 := boxed hb1
  have X : Block w1 w.heap.size 40 (bkCs h l o ns.length A1 c1 hs.length A2 c2 b f) := (Block.new w _ _).on hb1
  have hz : w.heap.size + 1 ≤ w1.heap.size := X.lt
  have c0 := X.cell 0
  have c1' := X.cell 1
  have c2' := X.cell 2
  have hBd := hB.drew
  have Xd := X.drew
  clear hb1
  go_wp2_with fail
  go_region_held3 (fun W => W.cell? ⟨w.heap.size, 0, none⟩ = some (.int .i64 h) ∧ W.cell? ⟨w.heap.size, 1, none⟩ = some (.int .i64 l) ∧ W.cell? ⟨w.heap.size, 2, none⟩ = some (.int .i64 o) ∧ Block W w.heap.size 40 (bkCs h l o ns.length A1 c1 hs.length A2 c2 b f) ∧ Below w.heap.size w W ∧ w.heap.size + 1 ≤ W.heap.size)
    (first | (go_keep; done) | (go_split_ands; exact ⟨kc hb (by assumption) (by omega), kc hb (by assumption) (by omega), kc hb (by assumption) (by omega), Block.on (by assumption) hb, bstep hb (by assumption) (by omega), zstep hb (by assumption)⟩))
    (first | (go_at_call 80; (first | (with_reducible refine (HDh.out _).mono ?_) | (with_reducible refine (HDl.out _).mono ?_) | (with_reducible refine (HDo.out _).mono ?_)); rintro e w' ⟨rfl, hb⟩))
  clear c0 c1' c2' hB hBd hz X Xd
  rename_i hHeld
  obtain ⟨-, -, -, X, hB, hz⟩ := hHeld
  clear a1 a2 a3 a4
  have q := X.cell

  by_cases hf0 : f = 0
  · have HOF2 := Lib.hid (HOF.out hf0)
    subst hf0
    clear D2 HDf
    cases b
    · have b2 : ∀ W : World, (Op.stringOp .add t0 goneA).run Tryz.prog W = .ok (.string t1) W := b1
      clear b1
      go_wp2_with fail
      clear b2 d1
      go_loop [3, 4] (fun t i => ∃ k : Nat, k ≤ ns.length ∧ i = .int .i64 k ∧ t = .string ((ns.take k).foldl nameT t2)) (fun _ i => ns.length - (intOf i).toNat)
      case atStart => exact ⟨0, Nat.zero_le _, rfl, by rw [HOF2.out]; rfl⟩
      case round =>
        obtain ⟨k, hk, rfl, rfl⟩ := hrel
        have hsz := HS1.out t2 k hk
        by_cases hlt : k < ns.length
        · obtain ⟨bn, offn, s, rfl, hlb, hx, hws, cs⟩ := HG.out k _ hB hlt
          have hss := wordB_le hws
          have HF := Lib.hid (foldl_take_succ nameT t2 hx)
          generalize (ns.take k).foldl nameT t2 = T at *
          have e1 := add_str T plusA (by show T.size + 2 ≤ _; omega)
          have e2 : ∀ W : World, (Op.stringOp .add (T ++ plusA) s).run Tryz.prog W = .ok (.string (nameT T s)) W := add_str (T ++ plusA) s (by rw [ByteArray.size_append]; show T.size + 2 + _ ≤ _; omega)
          generalize T ++ plusA = Y at *
          generalize nameT T s = T2 at *
          clear hx hws hss hsz HG HK HS1 HS2
          go_wp2_with fail
          go_round
          case rel => exact ⟨k + 1, by omega, by go_num, by rw [HF.out]⟩
          case measure => simp [intOf]; omega
        · obtain rfl : k = ns.length := by omega
          rw [List.take_length] at hsz
          have HT3 : Hid ((ns.take ns.length).foldl nameT t2 = ns.foldl nameT t2) := by rw [Hid, List.take_length]
          rw [HT3.out]
          generalize ns.foldl nameT t2 = t3 at *
          go_wp2_with fail
          go_loopw [3, 5] (fun t i W => ∃ k : Nat, k ≤ hs.length ∧ i = .int .i64 k ∧ t = .string ((hs.take k).foldl holdT t3) ∧ Block W w.heap.size 40 (bkCs h l o ns.length A1 c1 hs.length A2 c2 false 0) ∧ Below w.heap.size w W) (fun _ i _ => hs.length - (intOf i).toNat)
          case atStart => exact ⟨0, Nat.zero_le _, rfl, rfl, X, hB⟩
          case round =>
            obtain ⟨k, hk, rfl, rfl, X', hB'⟩ := hrel
            have hsz2 := HS2.out t3 k hk
            have q' := X'.cell
            have hz' : w.heap.size + 1 ≤ wr.heap.size := X'.lt
            by_cases hlt : k < hs.length
            · obtain ⟨bn, offn, x, rfl, hlb, hx, ⟨hws, hse⟩, k0, k1, k2⟩ := HK.out k _ hB' hlt
              have hss := wordB_le hws
              have hst := seatT_size hse
              have HL2 : Hid (∀ W : World, Calls Tryz.prog 81 #[seatV x.r x.c] W fun e w' => e = .returned (.string (seatT x.r x.c)) ∧ Below W.heap.size W w') := fun W => l02T_any x.r x.c hse W
              have HF := Lib.hid (foldl_take_succ holdT t3 hx)
              generalize (hs.take k).foldl holdT t3 = T at *
              have e1 := add_str T spA (by show T.size + 1 ≤ _; omega)
              have e2 := add_str (T ++ spA) x.f (by rw [ByteArray.size_append]; show T.size + 1 + _ ≤ _; omega)
              have e3 := add_str (T ++ spA ++ x.f) colA (by rw [ByteArray.size_append, ByteArray.size_append]; show T.size + 1 + _ + 1 ≤ _; omega)
              have e4 : ∀ W : World, (Op.stringOp .add (T ++ spA ++ x.f ++ colA) (seatT x.r x.c)).run Tryz.prog W = .ok (.string (holdT T x)) W := add_str (T ++ spA ++ x.f ++ colA) (seatT x.r x.c) (by rw [ByteArray.size_append, ByteArray.size_append, ByteArray.size_append]; show T.size + 1 + _ + 1 + _ ≤ _; omega)
              generalize T ++ spA ++ x.f ++ colA = Y3 at *
              generalize T ++ spA ++ x.f = Y2 at *
              generalize T ++ spA = Y1 at *
              generalize holdT T x = T2 at *
              obtain ⟨xf, xr, xc⟩ := x
              dsimp only at *
              generalize seatT xr xc = sx at *
              have q4 := X'.cell 4
              have hBd := hB'.drew
              have Xd := X'.drew
              clear hx hws hse hss hst hsz2 HG HK HS1 HS2 X hB q hz q'
              go_wp2_with fail
              go_region_held3 (fun W => W.cell? ⟨w.heap.size, 4, none⟩ = some (.slice (some ⟨bn, offn, none⟩) hs.length c2) ∧ W.cell? ⟨bn, offn + k * 3, none⟩ = some (.string xf) ∧ W.cell? ⟨bn, offn + k * 3 + 1, none⟩ = some (.int .i64 xr) ∧ W.cell? ⟨bn, offn + k * 3 + 2, none⟩ = some (.int .i64 xc) ∧ Block W w.heap.size 40 (bkCs h l o ns.length A1 c1 hs.length (some ⟨bn, offn, none⟩) c2 false 0) ∧ Below w.heap.size w W ∧ w.heap.size + 1 ≤ W.heap.size)
                (first | (go_keep; done) | (go_split_ands; exact ⟨kc hb (by assumption) (by omega), kc hb (by assumption) (by omega), kc hb (by assumption) (by omega), kc hb (by assumption) (by omega), Block.on (by assumption) hb, bstep hb (by assumption) (by omega), zstep hb (by assumption)⟩))
                (first | (go_at_call 81; refine (HL2.out _).mono ?_; rintro e w' ⟨rfl, hb⟩))
              clear k0 k1 k2 q4 hB' hBd hz' X' Xd
              rename_i hHeld
              obtain ⟨-, -, -, -, X', hB', hz'⟩ := hHeld
              go_wp2_with fail
              go_roundw
              case rel => exact ⟨k + 1, by omega, by go_num, by rw [HF.out], X', hB'⟩
              case measure => simp [intOf]; omega
            · obtain rfl : k = hs.length := by omega
              have HT4 : Hid ((hs.take hs.length).foldl holdT t3 = hs.foldl holdT t3) := by rw [Hid, List.take_length]
              rw [HT4.out]
              clear HG HK HS1 HS2
              go_wp2_with fail
              go_ret
              exact ⟨by rw [HR.out]; rfl, hB'⟩
    · have b2 : ∀ W : World, (Op.stringOp .add t0 liveA).run Tryz.prog W = .ok (.string t1) W := b1
      clear b1
      go_wp2_with fail
      clear b2 d1
      go_loop [3, 4] (fun t i => ∃ k : Nat, k ≤ ns.length ∧ i = .int .i64 k ∧ t = .string ((ns.take k).foldl nameT t2)) (fun _ i => ns.length - (intOf i).toNat)
      case atStart => exact ⟨0, Nat.zero_le _, rfl, by rw [HOF2.out]; rfl⟩
      case round =>
        obtain ⟨k, hk, rfl, rfl⟩ := hrel
        have hsz := HS1.out t2 k hk
        by_cases hlt : k < ns.length
        · obtain ⟨bn, offn, s, rfl, hlb, hx, hws, cs⟩ := HG.out k _ hB hlt
          have hss := wordB_le hws
          have HF := Lib.hid (foldl_take_succ nameT t2 hx)
          generalize (ns.take k).foldl nameT t2 = T at *
          have e1 := add_str T plusA (by show T.size + 2 ≤ _; omega)
          have e2 : ∀ W : World, (Op.stringOp .add (T ++ plusA) s).run Tryz.prog W = .ok (.string (nameT T s)) W := add_str (T ++ plusA) s (by rw [ByteArray.size_append]; show T.size + 2 + _ ≤ _; omega)
          generalize T ++ plusA = Y at *
          generalize nameT T s = T2 at *
          clear hx hws hss hsz HG HK HS1 HS2
          go_wp2_with fail
          go_round
          case rel => exact ⟨k + 1, by omega, by go_num, by rw [HF.out]⟩
          case measure => simp [intOf]; omega
        · obtain rfl : k = ns.length := by omega
          rw [List.take_length] at hsz
          have HT3 : Hid ((ns.take ns.length).foldl nameT t2 = ns.foldl nameT t2) := by rw [Hid, List.take_length]
          rw [HT3.out]
          generalize ns.foldl nameT t2 = t3 at *
          go_wp2_with fail
          go_loopw [3, 5] (fun t i W => ∃ k : Nat, k ≤ hs.length ∧ i = .int .i64 k ∧ t = .string ((hs.take k).foldl holdT t3) ∧ Block W w.heap.size 40 (bkCs h l o ns.length A1 c1 hs.length A2 c2 true 0) ∧ Below w.heap.size w W) (fun _ i _ => hs.length - (intOf i).toNat)
          case atStart => exact ⟨0, Nat.zero_le _, rfl, rfl, X, hB⟩
          case round =>
            obtain ⟨k, hk, rfl, rfl, X', hB'⟩ := hrel
            have hsz2 := HS2.out t3 k hk
            have q' := X'.cell
            have hz' : w.heap.size + 1 ≤ wr.heap.size := X'.lt
            by_cases hlt : k < hs.length
            · obtain ⟨bn, offn, x, rfl, hlb, hx, ⟨hws, hse⟩, k0, k1, k2⟩ := HK.out k _ hB' hlt
              have hss := wordB_le hws
              have hst := seatT_size hse
              have HL2 : Hid (∀ W : World, Calls Tryz.prog 81 #[seatV x.r x.c] W fun e w' => e = .returned (.string (seatT x.r x.c)) ∧ Below W.heap.size W w') := fun W => l02T_any x.r x.c hse W
              have HF := Lib.hid (foldl_take_succ holdT t3 hx)
              generalize (hs.take k).foldl holdT t3 = T at *
              have e1 := add_str T spA (by show T.size + 1 ≤ _; omega)
              have e2 := add_str (T ++ spA) x.f (by rw [ByteArray.size_append]; show T.size + 1 + _ ≤ _; omega)
              have e3 := add_str (T ++ spA ++ x.f) colA (by rw [ByteArray.size_append, ByteArray.size_append]; show T.size + 1 + _ + 1 ≤ _; omega)
              have e4 : ∀ W : World, (Op.stringOp .add (T ++ spA ++ x.f ++ colA) (seatT x.r x.c)).run Tryz.prog W = .ok (.string (holdT T x)) W := add_str (T ++ spA ++ x.f ++ colA) (seatT x.r x.c) (by rw [ByteArray.size_append, ByteArray.size_append, ByteArray.size_append]; show T.size + 1 + _ + 1 + _ ≤ _; omega)
              generalize T ++ spA ++ x.f ++ colA = Y3 at *
              generalize T ++ spA ++ x.f = Y2 at *
              generalize T ++ spA = Y1 at *
              generalize holdT T x = T2 at *
              obtain ⟨xf, xr, xc⟩ := x
              dsimp only at *
              generalize seatT xr xc = sx at *
              have q4 := X'.cell 4
              have hBd := hB'.drew
              have Xd := X'.drew
              clear hx hws hse hss hst hsz2 HG HK HS1 HS2 X hB q hz q'
              go_wp2_with fail
              go_region_held3 (fun W => W.cell? ⟨w.heap.size, 4, none⟩ = some (.slice (some ⟨bn, offn, none⟩) hs.length c2) ∧ W.cell? ⟨bn, offn + k * 3, none⟩ = some (.string xf) ∧ W.cell? ⟨bn, offn + k * 3 + 1, none⟩ = some (.int .i64 xr) ∧ W.cell? ⟨bn, offn + k * 3 + 2, none⟩ = some (.int .i64 xc) ∧ Block W w.heap.size 40 (bkCs h l o ns.length A1 c1 hs.length (some ⟨bn, offn, none⟩) c2 true 0) ∧ Below w.heap.size w W ∧ w.heap.size + 1 ≤ W.heap.size)
                (first | (go_keep; done) | (go_split_ands; exact ⟨kc hb (by assumption) (by omega), kc hb (by assumption) (by omega), kc hb (by assumption) (by omega), kc hb (by assumption) (by omega), Block.on (by assumption) hb, bstep hb (by assumption) (by omega), zstep hb (by assumption)⟩))
                (first | (go_at_call 81; refine (HL2.out _).mono ?_; rintro e w' ⟨rfl, hb⟩))
              clear k0 k1 k2 q4 hB' hBd hz' X' Xd
              rename_i hHeld
              obtain ⟨-, -, -, -, X', hB', hz'⟩ := hHeld
              go_wp2_with fail
              go_roundw
              case rel => exact ⟨k + 1, by omega, by go_num, by rw [HF.out], X', hB'⟩
              case measure => simp [intOf]; omega
            · obtain rfl : k = hs.length := by omega
              have HT4 : Hid ((hs.take hs.length).foldl holdT t3 = hs.foldl holdT t3) := by rw [Hid, List.take_length]
              rw [HT4.out]
              clear HG HK HS1 HS2
              go_wp2_with fail
              go_ret
              exact ⟨by rw [HR.out]; rfl, hB'⟩
  · have D3 := D2.out hf0
    have hf0' : (f == 0) = false := beq_eq_false_iff_ne.2 hf0
    clear D2 HOF
    cases b
    · have b2 : ∀ W : World, (Op.stringOp .add t0 goneA).run Tryz.prog W = .ok (.string t1) W := b1
      clear b1
      go_wp2_with fail
      refine (HDf.out _).mono ?_
      rintro e w3 ⟨rfl, hb3⟩
      replace hB := hB.trans (hb3.mono hB.size)
      replace X := X.on hb3
      replace q := X.cell
      clear hb3
      go_wp2_with fail
      clear b2 d1 D3
      go_loop [3, 4] (fun t i => ∃ k : Nat, k ≤ ns.length ∧ i = .int .i64 k ∧ t = .string ((ns.take k).foldl nameT t2)) (fun _ i => ns.length - (intOf i).toNat)
      case atStart => exact ⟨0, Nat.zero_le _, rfl, rfl⟩
      case round =>
        obtain ⟨k, hk, rfl, rfl⟩ := hrel
        have hsz := HS1.out t2 k hk
        by_cases hlt : k < ns.length
        · obtain ⟨bn, offn, s, rfl, hlb, hx, hws, cs⟩ := HG.out k _ hB hlt
          have hss := wordB_le hws
          have HF := Lib.hid (foldl_take_succ nameT t2 hx)
          generalize (ns.take k).foldl nameT t2 = T at *
          have e1 := add_str T plusA (by show T.size + 2 ≤ _; omega)
          have e2 : ∀ W : World, (Op.stringOp .add (T ++ plusA) s).run Tryz.prog W = .ok (.string (nameT T s)) W := add_str (T ++ plusA) s (by rw [ByteArray.size_append]; show T.size + 2 + _ ≤ _; omega)
          generalize T ++ plusA = Y at *
          generalize nameT T s = T2 at *
          clear hx hws hss hsz HG HK HS1 HS2
          go_wp2_with fail
          go_round
          case rel => exact ⟨k + 1, by omega, by go_num, by rw [HF.out]⟩
          case measure => simp [intOf]; omega
        · obtain rfl : k = ns.length := by omega
          rw [List.take_length] at hsz
          have HT3 : Hid ((ns.take ns.length).foldl nameT t2 = ns.foldl nameT t2) := by rw [Hid, List.take_length]
          rw [HT3.out]
          generalize ns.foldl nameT t2 = t3 at *
          go_wp2_with fail
          go_loopw [3, 5] (fun t i W => ∃ k : Nat, k ≤ hs.length ∧ i = .int .i64 k ∧ t = .string ((hs.take k).foldl holdT t3) ∧ Block W w.heap.size 40 (bkCs h l o ns.length A1 c1 hs.length A2 c2 false f) ∧ Below w.heap.size w W) (fun _ i _ => hs.length - (intOf i).toNat)
          case atStart => exact ⟨0, Nat.zero_le _, rfl, rfl, X, hB⟩
          case round =>
            obtain ⟨k, hk, rfl, rfl, X', hB'⟩ := hrel
            have hsz2 := HS2.out t3 k hk
            have q' := X'.cell
            have hz' : w.heap.size + 1 ≤ wr.heap.size := X'.lt
            by_cases hlt : k < hs.length
            · obtain ⟨bn, offn, x, rfl, hlb, hx, ⟨hws, hse⟩, k0, k1, k2⟩ := HK.out k _ hB' hlt
              have hss := wordB_le hws
              have hst := seatT_size hse
              have HL2 : Hid (∀ W : World, Calls Tryz.prog 81 #[seatV x.r x.c] W fun e w' => e = .returned (.string (seatT x.r x.c)) ∧ Below W.heap.size W w') := fun W => l02T_any x.r x.c hse W
              have HF := Lib.hid (foldl_take_succ holdT t3 hx)
              generalize (hs.take k).foldl holdT t3 = T at *
              have e1 := add_str T spA (by show T.size + 1 ≤ _; omega)
              have e2 := add_str (T ++ spA) x.f (by rw [ByteArray.size_append]; show T.size + 1 + _ ≤ _; omega)
              have e3 := add_str (T ++ spA ++ x.f) colA (by rw [ByteArray.size_append, ByteArray.size_append]; show T.size + 1 + _ + 1 ≤ _; omega)
              have e4 : ∀ W : World, (Op.stringOp .add (T ++ spA ++ x.f ++ colA) (seatT x.r x.c)).run Tryz.prog W = .ok (.string (holdT T x)) W := add_str (T ++ spA ++ x.f ++ colA) (seatT x.r x.c) (by rw [ByteArray.size_append, ByteArray.size_append, ByteArray.size_append]; show T.size + 1 + _ + 1 + _ ≤ _; omega)
              generalize T ++ spA ++ x.f ++ colA = Y3 at *
              generalize T ++ spA ++ x.f = Y2 at *
              generalize T ++ spA = Y1 at *
              generalize holdT T x = T2 at *
              obtain ⟨xf, xr, xc⟩ := x
              dsimp only at *
              generalize seatT xr xc = sx at *
              have q4 := X'.cell 4
              have hBd := hB'.drew
              have Xd := X'.drew
              clear hx hws hse hss hst hsz2 HG HK HS1 HS2 X hB q hz q'
              go_wp2_with fail
              go_region_held3 (fun W => W.cell? ⟨w.heap.size, 4, none⟩ = some (.slice (some ⟨bn, offn, none⟩) hs.length c2) ∧ W.cell? ⟨bn, offn + k * 3, none⟩ = some (.string xf) ∧ W.cell? ⟨bn, offn + k * 3 + 1, none⟩ = some (.int .i64 xr) ∧ W.cell? ⟨bn, offn + k * 3 + 2, none⟩ = some (.int .i64 xc) ∧ Block W w.heap.size 40 (bkCs h l o ns.length A1 c1 hs.length (some ⟨bn, offn, none⟩) c2 false f) ∧ Below w.heap.size w W ∧ w.heap.size + 1 ≤ W.heap.size)
                (first | (go_keep; done) | (go_split_ands; exact ⟨kc hb (by assumption) (by omega), kc hb (by assumption) (by omega), kc hb (by assumption) (by omega), kc hb (by assumption) (by omega), Block.on (by assumption) hb, bstep hb (by assumption) (by omega), zstep hb (by assumption)⟩))
                (first | (go_at_call 81; refine (HL2.out _).mono ?_; rintro e w' ⟨rfl, hb⟩))
              clear k0 k1 k2 q4 hB' hBd hz' X' Xd
              rename_i hHeld
              obtain ⟨-, -, -, -, X', hB', hz'⟩ := hHeld
              go_wp2_with fail
              go_roundw
              case rel => exact ⟨k + 1, by omega, by go_num, by rw [HF.out], X', hB'⟩
              case measure => simp [intOf]; omega
            · obtain rfl : k = hs.length := by omega
              have HT4 : Hid ((hs.take hs.length).foldl holdT t3 = hs.foldl holdT t3) := by rw [Hid, List.take_length]
              rw [HT4.out]
              clear HG HK HS1 HS2
              go_wp2_with fail
              go_ret
              exact ⟨by rw [HR.out]; rfl, hB'⟩
    · have b2 : ∀ W : World, (Op.stringOp .add t0 liveA).run Tryz.prog W = .ok (.string t1) W := b1
      clear b1
      go_wp2_with fail
      refine (HDf.out _).mono ?_
      rintro e w3 ⟨rfl, hb3⟩
      replace hB := hB.trans (hb3.mono hB.size)
      replace X := X.on hb3
      replace q := X.cell
      clear hb3
      go_wp2_with fail
      clear b2 d1 D3
      go_loop [3, 4] (fun t i => ∃ k : Nat, k ≤ ns.length ∧ i = .int .i64 k ∧ t = .string ((ns.take k).foldl nameT t2)) (fun _ i => ns.length - (intOf i).toNat)
      case atStart => exact ⟨0, Nat.zero_le _, rfl, rfl⟩
      case round =>
        obtain ⟨k, hk, rfl, rfl⟩ := hrel
        have hsz := HS1.out t2 k hk
        by_cases hlt : k < ns.length
        · obtain ⟨bn, offn, s, rfl, hlb, hx, hws, cs⟩ := HG.out k _ hB hlt
          have hss := wordB_le hws
          have HF := Lib.hid (foldl_take_succ nameT t2 hx)
          generalize (ns.take k).foldl nameT t2 = T at *
          have e1 := add_str T plusA (by show T.size + 2 ≤ _; omega)
          have e2 : ∀ W : World, (Op.stringOp .add (T ++ plusA) s).run Tryz.prog W = .ok (.string (nameT T s)) W := add_str (T ++ plusA) s (by rw [ByteArray.size_append]; show T.size + 2 + _ ≤ _; omega)
          generalize T ++ plusA = Y at *
          generalize nameT T s = T2 at *
          clear hx hws hss hsz HG HK HS1 HS2
          go_wp2_with fail
          go_round
          case rel => exact ⟨k + 1, by omega, by go_num, by rw [HF.out]⟩
          case measure => simp [intOf]; omega
        · obtain rfl : k = ns.length := by omega
          rw [List.take_length] at hsz
          have HT3 : Hid ((ns.take ns.length).foldl nameT t2 = ns.foldl nameT t2) := by rw [Hid, List.take_length]
          rw [HT3.out]
          generalize ns.foldl nameT t2 = t3 at *
          go_wp2_with fail
          go_loopw [3, 5] (fun t i W => ∃ k : Nat, k ≤ hs.length ∧ i = .int .i64 k ∧ t = .string ((hs.take k).foldl holdT t3) ∧ Block W w.heap.size 40 (bkCs h l o ns.length A1 c1 hs.length A2 c2 true f) ∧ Below w.heap.size w W) (fun _ i _ => hs.length - (intOf i).toNat)
          case atStart => exact ⟨0, Nat.zero_le _, rfl, rfl, X, hB⟩
          case round =>
            obtain ⟨k, hk, rfl, rfl, X', hB'⟩ := hrel
            have hsz2 := HS2.out t3 k hk
            have q' := X'.cell
            have hz' : w.heap.size + 1 ≤ wr.heap.size := X'.lt
            by_cases hlt : k < hs.length
            · obtain ⟨bn, offn, x, rfl, hlb, hx, ⟨hws, hse⟩, k0, k1, k2⟩ := HK.out k _ hB' hlt
              have hss := wordB_le hws
              have hst := seatT_size hse
              have HL2 : Hid (∀ W : World, Calls Tryz.prog 81 #[seatV x.r x.c] W fun e w' => e = .returned (.string (seatT x.r x.c)) ∧ Below W.heap.size W w') := fun W => l02T_any x.r x.c hse W
              have HF := Lib.hid (foldl_take_succ holdT t3 hx)
              generalize (hs.take k).foldl holdT t3 = T at *
              have e1 := add_str T spA (by show T.size + 1 ≤ _; omega)
              have e2 := add_str (T ++ spA) x.f (by rw [ByteArray.size_append]; show T.size + 1 + _ ≤ _; omega)
              have e3 := add_str (T ++ spA ++ x.f) colA (by rw [ByteArray.size_append, ByteArray.size_append]; show T.size + 1 + _ + 1 ≤ _; omega)
              have e4 : ∀ W : World, (Op.stringOp .add (T ++ spA ++ x.f ++ colA) (seatT x.r x.c)).run Tryz.prog W = .ok (.string (holdT T x)) W := add_str (T ++ spA ++ x.f ++ colA) (seatT x.r x.c) (by rw [ByteArray.size_append, ByteArray.size_append, ByteArray.size_append]; show T.size + 1 + _ + 1 + _ ≤ _; omega)
              generalize T ++ spA ++ x.f ++ colA = Y3 at *
              generalize T ++ spA ++ x.f = Y2 at *
              generalize T ++ spA = Y1 at *
              generalize holdT T x = T2 at *
              obtain ⟨xf, xr, xc⟩ := x
              dsimp only at *
              generalize seatT xr xc = sx at *
              have q4 := X'.cell 4
              have hBd := hB'.drew
              have Xd := X'.drew
              clear hx hws hse hss hst hsz2 HG HK HS1 HS2 X hB q hz q'
              go_wp2_with fail
              go_region_held3 (fun W => W.cell? ⟨w.heap.size, 4, none⟩ = some (.slice (some ⟨bn, offn, none⟩) hs.length c2) ∧ W.cell? ⟨bn, offn + k * 3, none⟩ = some (.string xf) ∧ W.cell? ⟨bn, offn + k * 3 + 1, none⟩ = some (.int .i64 xr) ∧ W.cell? ⟨bn, offn + k * 3 + 2, none⟩ = some (.int .i64 xc) ∧ Block W w.heap.size 40 (bkCs h l o ns.length A1 c1 hs.length (some ⟨bn, offn, none⟩) c2 true f) ∧ Below w.heap.size w W ∧ w.heap.size + 1 ≤ W.heap.size)
                (first | (go_keep; done) | (go_split_ands; exact ⟨kc hb (by assumption) (by omega), kc hb (by assumption) (by omega), kc hb (by assumption) (by omega), kc hb (by assumption) (by omega), Block.on (by assumption) hb, bstep hb (by assumption) (by omega), zstep hb (by assumption)⟩))
                (first | (go_at_call 81; refine (HL2.out _).mono ?_; rintro e w' ⟨rfl, hb⟩))
              clear k0 k1 k2 q4 hB' hBd hz' X' Xd
              rename_i hHeld
              obtain ⟨-, -, -, -, X', hB', hz'⟩ := hHeld
              go_wp2_with fail
              go_roundw
              case rel => exact ⟨k + 1, by omega, by go_num, by rw [HF.out], X', hB'⟩
              case measure => simp [intOf]; omega
            · obtain rfl : k = hs.length := by omega
              have HT4 : Hid ((hs.take hs.length).foldl holdT t3 = hs.foldl holdT t3) := by rw [Hid, List.take_length]
              rw [HT4.out]
              clear HG HK HS1 HS2
              go_wp2_with fail
              go_ret
              exact ⟨by rw [HR.out]; rfl, hB'⟩
end Go.Proofs.YtihlilihipcfaaaGreatDoor
namespace Go.Proofs.YtihlilihipcfaaaGreatDoor
open Go.ChangeShapes Go.WideShapes Go.ChangeAt Go.RowKit Go.ChangeMaps
set_option maxRecDepth 10000
set_option linter.unusedSimpArgs false
set_option linter.unusedVariables false

section
variable {P : Program} {w : World} {ops : Array Oper} {rest : List Oper} {a : Act} {Q : Exit → Act → World → Prop}

theorem run_append_nil {base t ty e : Nat} {i : TypeInfo} {k n : Nat} {v : Value} {xs : List Value} (ht : P.underlying t = some (.slice e)) (hi : P.info? e = some i) (hown : w.ownsRow base e k v n xs) (c : Nat) :
    (Builtin.append_ #[t, t] ty #[v, .slice none 0 c]).run P w = .ok v w := by
  rcases hown.2 with ⟨rfl, rfl⟩ | ⟨g, cap, cur, rfl, _, _, hnc, _⟩
  · simp [Builtin.append_, run_underlying ht, sizeOf, typeInfo, hi, Builtin.lenOf, Builtin.firstCells]
  · simp [Builtin.append_, run_underlying ht, sizeOf, typeInfo, hi, Builtin.lenOf, Builtin.firstCells, hnc, storeCells]

/-- What append leaves: a row of one's own, the longer one. -/
theorem run_append_lies {base t ty e : Nat} {z : Value} {k bytes n m c B : Nat} {v : Value} {xs news : List Value} {A : Option Addr} (ht : P.underlying t = some (.slice e)) (hi : (P.info? e).map (fun i => (i.zero, i.size, i.bytes)) = some (some z, k, bytes)) (hzs : z.cells.size = k) (hk : 0 < k) (hby : bytes ≤ 1000)
    (hown : w.ownsRow base e k v n xs) (hl : Lies w B k A m news) (h1 : ∀ u ∈ news, u.oneCell' = true) (hlen : n + m ≤ 1099511627) (hbase : base ≤ w.heap.size) :
    ∃ v' w', (Builtin.append_ #[t, t] ty #[v, .slice A m c]).run P w = .ok v' w' ∧ w'.ownsRow base e k v' (n + m) (xs ++ news) ∧ w.grownBy w' v.ownBlock := by
  obtain ⟨i0, hi0, hz0, hz1, hz2⟩ := info_parts hi
  have hb : (n + m) * bytes ≤ 140737488355328 := Nat.le_trans (Nat.mul_le_mul_left _ hby) (by omega)
  cases A with
  | none =>
    have hm : m = 0 := by
      rcases Nat.eq_zero_or_pos m with h0 | h0
      · exact h0
      · obtain ⟨b, off, h, _⟩ := hl.2 h0
        cases h
    subst hm
    have hn : news = [] := List.eq_nil_of_length_eq_zero (by simpa using hl.1)
    subst hn
    exact ⟨v, w, run_append_nil ht hi0 hown c, by simpa using hown, World.grownBy.refl w _⟩
  | some ad =>
    have hnews : ∀ j u, news[j]? = some u → w.cell? (ad.add j) = some u := fun j u hu => by
      have hm : 0 < m := by
        rcases Nat.eq_zero_or_pos m with h0 | h0
        · have hle := hl.1
          rw [h0, Nat.zero_mul] at hle
          rw [List.eq_nil_of_length_eq_zero hle] at hu
          cases hu
        · exact h0
      obtain ⟨b, off, he, _, hc⟩ := hl.2 hm
      cases he
      rw [Go.WideShapes.add_plain]
      exact hc j u hu
    obtain ⟨v', w', hr, h2, h3, _⟩ := run_append_own w base t ty e i0 z k bytes ht hi0 hz0 hz1 hz2 hzs hk v n xs hown ad m c news hl.1 hnews h1 (by unfold maxLen; omega) hb hbase
    exact ⟨v', w', hr, h2, h3⟩

/-- append(out, xs...). -/
theorem wpList_append_lies {dst : Option Tmp} {ty : TypeId} {pos : String} {after : Array Edge} {s x : Operand} {t e : TypeId} {z : Value} {k bytes : Nat}
    (ht : P.underlying t = some (.slice e)) (hi : (P.info? e).map (fun i => (i.zero, i.size, i.bytes)) = some (some z, k, bytes)) (hzs : z.cells.size = k) (hk : 0 < k) (hby : bytes ≤ 1000)
    (base : Nat) (v : Value) (n : Nat) (xs : List Value) (hs : a.eval s = v) (hown : w.ownsRow base e k v n xs) (B : Nat) (A : Option Addr) (m c : Nat) (news : List Value) (hx : a.eval x = .slice A m c) (hl : Lies w B k A m news)
    (h1 : ∀ u ∈ news, u.oneCell' = true) (hlen : n + m ≤ 1099511627) (hbase : base ≤ w.heap.size)
    (h : ∀ v' w', w'.ownsRow base e k v' (n + m) (xs ++ news) → w.grownBy w' v.ownBlock → wpList P ops Q rest (a.put dst v') w') :
    wpList P ops Q (⟨dst, .call { callee := .builtin .append, args := #[s, x], argTypes := #[t, t] }, ty, pos, after, none⟩ :: rest) a w := by
  obtain ⟨v', w', hr, h2, h3⟩ := run_append_lies (ty := ty) (c := c) ht hi hzs hk hby hown hl h1 hlen hbase
  refine wpList_plain rfl fun K hK => ?_
  unfold Oper.wp
  simp [execOp, resolve, invoke, builtin, hs, hx, hr, Result.andThen]
  exact hK _ _ (h v' w' h2 h3)

/-- What append of one value leaves, which lies in a block that was laid for it. -/
theorem run_append_last {wr : World} {base t ty e e' : Nat} {z : Value} {k bytes n : Nat} {v : Value} {xs : List Value} {cs : Array Value} (ht : P.underlying t = some (.slice e)) (hi : (P.info? e).map (fun i => (i.zero, i.size, i.bytes)) = some (some z, k, bytes)) (hzs : z.cells.size = k) (hk : 0 < k) (hby : bytes ≤ 1000)
    (hown : wr.ownsRow base e k v n xs) (hcs : cs.size = k) (h1 : ∀ u ∈ cs.toList, u.oneCell' = true) (hlen : n + 1 ≤ 1099511627) (hbase : base ≤ wr.heap.size) :
    ∃ v' w', (Builtin.append_ #[t, t] ty #[v, .slice (some ⟨wr.heap.size, 0, none⟩) 1 1]).run P (wr.alloc (.cells cs e')) = .ok v' w' ∧ w'.ownsRow base e k v' (n + 1) (xs ++ cs.toList) ∧ (wr.alloc (.cells cs e')).grownBy w' v.ownBlock :=
  run_append_lies (B := wr.heap.size + 1) ht hi hzs hk hby (hown.alloc _) ⟨by simp [hcs], fun _ => ⟨wr.heap.size, 0, rfl, by omega, fun j u hu => by
    rw [Nat.zero_add, cell_of_row _ wr.heap.size j cs e' (0, 0) (heap_alloc_new wr _)]
    simpa using hu⟩⟩ h1 hlen (by simp; omega)
end

section
variable {P : Program}
/-- copy(d, s), d a cut of a row that is known whole, elements of k cells. -/
theorem run_copy_k (w : World) (dT sT ty elem : TypeId) (g o dLen dCap : Nat) (a : Addr) (sLen sCap k : Nat) (cur : Array Value) (t : TypeId) (cs : List Value)
    (hu : P.underlying dT = some (.slice elem)) (hs : (P.info? elem).map (·.size) = some k)
    (hg : w.heap[g]? = some (.cells cur t (0, 0))) (hn : cs.length = Nat.min sLen dLen * k)
    (hsrc : ∀ j v, cs[j]? = some v → w.cell? (a.add j) = some v) (hfit : o + cs.length ≤ cur.size) (h1 : ∀ v ∈ cs, v.oneCell' = true) :
    (Builtin.copy_ #[dT, sT] ty #[.slice (some ⟨g, o, none⟩) dLen dCap, .slice (some a) sLen sCap]).run P w =
      .ok (goInt (Nat.min sLen dLen)) (w.setRow g (cur.toList.take o ++ cs ++ cur.toList.drop (o + cs.length)).toArray) := by
  have hl := run_loadCells_list (P := P) w a cs hsrc
  have hst := run_storeCells_at P g o t cs 0 cur w hg (by simpa using hfit) h1
  cases hq : P.info? elem with
  | none => simp [hq] at hs
  | some i =>
    have hi : i.size = k := by simpa [hq] using hs
    simp [Builtin.copy_, run_underlying hu, Builtin.lenOf, Builtin.firstCells, sizeOf, typeInfo, hq, hi, ← hn, hl, hst]
end
end Go.Proofs.YtihlilihipcfaaaGreatDoor
namespace Go.Proofs.YtihlilihipcfaaaGreatDoor
open Go.ChangeShapes Go.WideShapes Go.ChangeAt Go.RowKit Go.ChangeMaps
set_option maxRecDepth 10000
set_option linter.unusedSimpArgs false
set_option linter.unusedVariables false

/-- append as one step of a region that draws. -/
theorem step_app {P : Program} {ops : Array Oper} {o : Oper} {a : Act} {w : World} {K : Act → World → Prop} {Q : Exit → Act → World → Prop} {E : Prop} (hg : o.guard = none) (s x : Operand) (t : TypeId) (hop : o.op = Op.call { callee := Callee.builtin Builtin.append, args := #[s, x], argTypes := #[t, t] })
    {e : TypeId} {z : Value} {k bytes : Nat} (ht : P.underlying t = some (.slice e)) (hi : (P.info? e).map (fun i => (i.zero, i.size, i.bytes)) = some (some z, k, bytes)) (hzs : z.cells.size = k) (hk : 0 < k) (hby : bytes ≤ 1000)
    {base n : Nat} {v : Value} {xs : List Value} (hown : w.ownsRow base e k v n xs) (hs : a.eval s = v) {B m c : Nat} {A : Option Addr} {news : List Value} (hl : Lies w B k A m news) (hx : a.eval x = .slice A m c)
    (h1 : ∀ u ∈ news, u.oneCell' = true) (hlen : n + m ≤ 1099511627) (hbase : base ≤ w.heap.size)
    (h : ∀ A' c' w', w'.ownsRow base e k (.slice A' (n + m) c') (n + m) (xs ++ news) → w.grownBy w' v.ownBlock → K (a.put o.dst (.slice A' (n + m) c')) w') :
    if Region.wanted o (yielded ops a.tmps) = true then Oper.wp P o a w K Q else E := by
  have hw : Region.wanted o (yielded ops a.tmps) = true := by simp [Region.wanted, hg]
  rw [if_pos hw]
  obtain ⟨v', w', hr, h2, h3⟩ := run_append_lies (ty := o.type) (c := c) ht hi hzs hk hby hown hl h1 hlen hbase
  obtain ⟨A', c', rfl, -, -⟩ := own_form h2
  unfold Oper.wp
  simp [execOp, hop, resolve, invoke, builtin, hs, hx, hr, Result.andThen]
  exact h A' c' w' h2 h3
/-- What a block holds, read as one element. -/
theorem lies_block {w : World} {g : Nat} {t : TypeId} {cs : Array Value} (h : Block w g t cs) {k : Nat} (hk : cs.size = k) : Lies w w.heap.size k (some ⟨g, 0, none⟩) 1 cs.toList :=
  ⟨by simp [hk], fun _ => ⟨g, 0, rfl, h.lt, fun j u hu => by rw [Nat.zero_add, h.cell j]; simpa using hu⟩⟩
/-- .. as some elements of one cell each. -/
theorem lies_blockN {w : World} {g : Nat} {t : TypeId} {cs : Array Value} (h : Block w g t cs) {n : Nat} (hk : cs.size = n) : Lies w w.heap.size 1 (some ⟨g, 0, none⟩) n cs.toList :=
  ⟨by simp [hk], fun _ => ⟨g, 0, rfl, h.lt, fun j u hu => by rw [Nat.zero_add, h.cell j]; simpa using hu⟩⟩
end Go.Proofs.YtihlilihipcfaaaGreatDoor
