/-
  spec.ReqText: the walk.
-/
import Derived.Test.YtpncnkihfijmaaaDoorReqT
import Derived.Test.YtpncnkihfijmaaaDoorReqRightS
import Derived.Deep.DeepCutAuto
namespace Go.Proofs.YtpncnkihfijmaaaDoor
open Go.ChangeShapes Go.WideShapes Go.ChangeAt Go.RowKit Go.ChangeMaps
set_option maxRecDepth 10000
set_option linter.unusedSimpArgs false
set_option linter.unusedVariables false

set_option maxHeartbeats 1000000 in
theorem l06Word_any (k : Int) (h : inB k 1 10 = true) (w : World) : Calls Tryd.prog 27 #[.int .i64 k] w fun e w' => e = .returned (.string (kindT k)) ∧ Below w.heap.size w w' := by
  rcases kind_ways' h with rfl | rfl | rfl | rfl | rfl | rfl | rfl | rfl | rfl | rfl
  all_goals
    go_enter Tryd.func27, Tryd.ntmps27
    go_wp2
    go_ret
    exact ⟨rfl, by go_grown⟩
theorem decBig (n : Int) (h0 : 0 ≤ n) (h1 : n < 1000) (W : World) : Calls Tryd.prog 28 #[.int .i64 n] W fun e w' => e = .returned (.string (dgT n)) ∧ Below W.heap.size W w' := by
  obtain ⟨m, rfl⟩ := nat_of h0
  exact l01Dec_nat m W (by omega)

abbrev rqCs (k t h l : Int) (n f : ByteArray) (r c o : Int) : Array Value := #[.int .i64 k, .int .i64 t, .int .i64 h, .int .i64 l, .string n, .string f, .int .i64 r, .int .i64 c, .int .i64 o]

theorem add2 (t s : ByteArray) (h : t.size ≤ 100) (h2 : s.size ≤ 100) : ∀ W : World, (Op.stringOp .add (t ++ spA) s).run Tryd.prog W = .ok (.string (spT t s)) W :=
  add_str (t ++ spA) s (by rw [ByteArray.size_append]; show t.size + 1 + _ ≤ _; omega)
theorem add4 (t : ByteArray) (h l : Int) (ht : t.size ≤ 100) (h0 : 0 ≤ h) (h1 : h < 10) (l0 : 0 ≤ l) (l1 : l < 10) : ∀ W : World, (Op.stringOp .add (((t ++ spA) ++ dgT h) ++ dotA) (dgT l)).run Tryd.prog W = .ok (.string (spT t (placeT h l))) W := by
  have s1 := dgT_size h0 h1
  have s2 := dgT_size l0 l1
  have := add_str (((t ++ spA) ++ dgT h) ++ dotA) (dgT l) (by
    rw [ByteArray.size_append, ByteArray.size_append, ByteArray.size_append, s1, s2]; show t.size + 1 + 1 + 1 + 1 ≤ _; omega)
  have e : (((t ++ spA) ++ dgT h) ++ dotA) ++ dgT l = spT t (placeT h l) := by
    apply ba_ext
    rw [spT, placeT, ba_app, ba_app, ba_app, ba_app, ba_app, ba_app, ba_app, ba_app]
    simp
  rw [e] at this
  exact this

set_option maxRecDepth 100000 in
set_option maxHeartbeats 4000000 in
theorem l06Text_any (k t h l : Int) (n f : ByteArray) (r c o : Int) (w : World) (hr : reqB ⟨k, t, h, l, n, f, r, c, o⟩ = true) :
    Calls Tryd.prog 12 #[reqV k t h l n f r c o] w fun e w' => e = .returned (.string (reqT ⟨k, t, h, l, n, f, r, c, o⟩)) ∧ Below w.heap.size w w' := by
  have ho := req_ok hr
  have HE := Lib.hid (soT_all hr)
  have HT : Hid (∀ i, (soT ⟨k, t, h, l, n, f, r, c, o⟩ i).size ≤ 40) := soT_size ho
  have HS : Hid (∀ (i : Nat) (x : UInt8), (takesT k).data.toList[i]? = some x → soT ⟨k, t, h, l, n, f, r, c, o⟩ (i + 1) = spT (soT ⟨k, t, h, l, n, f, r, c, o⟩ i) (pieceT ⟨k, t, h, l, n, f, r, c, o⟩ x)) := fun i x hx => soT_succ hx
  have HW : Hid (∀ x ∈ (takesT k).data.toList, (x.toNat = 98 ∧ hasPb k = true) ∨ (x.toNat = 110 ∧ hasNb k = true) ∨ (x.toNat = 102 ∧ hasFb k = true) ∨ (x.toNat = 115 ∧ hasSb k = true) ∨ (x.toNat = 116 ∧ hasTb k = true)) := fun x hx => letter_ways hx
  have HTk : Hid (∀ W : World, Calls Tryd.prog 22 #[.int .i64 k] W fun e w' => e = .returned (.string (takesT k)) ∧ W = w') := fun W => l06Takes_any k W
  have HKw : Hid (∀ W : World, Calls Tryd.prog 27 #[.int .i64 k] W fun e w' => e = .returned (.string (kindT k)) ∧ Below W.heap.size W w') := fun W => l06Word_any k ho.kind W
  have HDt : Hid (∀ W : World, Calls Tryd.prog 28 #[.int .i64 t] W fun e w' => e = .returned (.string (dgT t)) ∧ Below W.heap.size W w') := fun W => decBig t (by have := ho.tok; simp at this; omega) (by have := ho.tok; simp at this; omega) W
  have hks := kindT_size ho.kind
  have hts := dgT_size3 (n := t) (by have := ho.tok; simp at this; omega)
  have a1 := add_str (kindT k) spA (by show (kindT k).size + 1 ≤ _; simp at hks; omega)
  have a2 : ∀ W : World, (Op.stringOp .add (kindT k ++ spA) (dgT t)).run Tryd.prog W = .ok (.string (soT ⟨k, t, h, l, n, f, r, c, o⟩ 0)) W := add2 (kindT k) (dgT t) (by simp at hks; omega) (by omega)
  have hTl : (takesT k).size ≤ 3 := takesT_size k
  have hTd : (takesT k).data.toList.length = (takesT k).size := by simp
  have HO := Lib.hid ho
  clear ho hks hts hr
  generalize takesT k = T at *
  generalize kindT k ++ spA = z1 at *
  generalize kindT k = kk at *
  have X0 := Block.new w (rqCs k t h l n f r c o) 30
  have hB0 : Below w.heap.size w (w.alloc (.cells (rqCs k t h l n f r c o) 30)) := (Below.refl _ _).alloc (Nat.le_refl _) _
  have x0 := X0.cell
  have HKc : Hid (∀ p : Cls (w.alloc (.cells (rqCs k t h l n f r c o) 30)), Calls Tryd.prog 27 #[.int .i64 k] p.W fun e w'' => e = .returned (.string kk) ∧ ∃ p' : Cls (w.alloc (.cells (rqCs k t h l n f r c o) 30)), w'' = p'.W) := fun p => Cls.call (HKw.out p.W)
  have HDc : Hid (∀ p : Cls (w.alloc (.cells (rqCs k t h l n f r c o) 30)), Calls Tryd.prog 28 #[.int .i64 t] p.W fun e w'' => e = .returned (.string (dgT t)) ∧ ∃ p' : Cls (w.alloc (.cells (rqCs k t h l n f r c o) 30)), w'' = p'.W) := fun p => Cls.call (HDt.out p.W)
  have y0 : ∀ p : Cls (w.alloc (.cells (rqCs k t h l n f r c o) 30)), p.W.cell? ⟨w.heap.size, 0, none⟩ = some (.int .i64 k) := fun p => Cls.cell (x0 0) p
  have y1 : ∀ p : Cls (w.alloc (.cells (rqCs k t h l n f r c o) 30)), p.W.cell? ⟨w.heap.size, 1, none⟩ = some (.int .i64 t) := fun p => Cls.cell (x0 1) p
  generalize hs0 : soT ⟨k, t, h, l, n, f, r, c, o⟩ 0 = t0 at *
  go_enter Tryd.func12, Tryd.ntmps12
  go_wp2_with fail
  refine wp_region_cls (by kernel_rfl) (by kernel_rfl) ?_
  repeat (go_big_quiet_step (first | (go_at_call 27; exact HKc.out _) | (go_at_call 28; exact HDc.out _)))
  refine wpQuiet_nil ?_
  rintro _ ⟨⟨W, hX⟩, rfl⟩
  have X := X0.on hX
  have hB := hB0.trans (hX.mono hB0.size)
  have HS0 := Lib.hid hs0
  clear y0 y1 HKc HDc HKw HDt a1 a2 x0 X0 hB0 hX hs0
  have x0 := X.cell 0
  go_wp2_with (first | (go_at_call 22; refine (HTk.out _).mono ?_; rintro e w' ⟨rfl, rfl⟩))
  go_loopw [3, 5] (fun z i W => ∃ j : Nat, j ≤ T.size ∧ i = .int .i64 j ∧ z = .string (soT ⟨k, t, h, l, n, f, r, c, o⟩ j) ∧ Block W w.heap.size 30 (rqCs k t h l n f r c o) ∧ Below w.heap.size w W) (fun _ i _ => T.size - (intOf i).toNat)
  case atStart => exact ⟨0, Nat.zero_le _, rfl, by rw [HS0.out], X, hB⟩
  case round =>
    clear X hB x0
    obtain ⟨j, hj, rfl, rfl, X, hB⟩ := hrel
    by_cases hlt : j < T.size
    · have hx : T.data.toList[j]? = some T[j] := by
        rw [List.getElem?_eq_getElem (by simpa using hlt)]; rfl
      have hways := HW.out T[j] (List.mem_of_getElem? hx)
      have hsj := HS.out j T[j] hx
      have hsz := HT.out j
      clear hx HS HW HT HS0 HTk HE
      have HQ : Hid (∀ z, z = soT ⟨k, t, h, l, n, f, r, c, o⟩ (j + 1) → Value.string z = Value.string (soT ⟨k, t, h, l, n, f, r, c, o⟩ (j + 1))) := fun z hz => by rw [hz]
      obtain ⟨t2, ht2⟩ : ∃ t2, t2 = soT ⟨k, t, h, l, n, f, r, c, o⟩ (j + 1) := ⟨_, rfl⟩
      have HQ2 := Lib.hid ht2
      rw [← ht2] at hsj
      clear ht2
      generalize soT ⟨k, t, h, l, n, f, r, c, o⟩ j = t1 at *
      rcases hways with ⟨hc, hp⟩ | ⟨hc, hp⟩ | ⟨hc, hp⟩ | ⟨hc, hp⟩ | ⟨hc, hp⟩
      · have e0 : (((T[j].toNat : Nat) : Int) == 98) = true := by rw [hc]; rfl
        have h2 : t2 = spT t1 (placeT h l) := by rw [hsj, pieceT, if_pos hc]
        obtain ⟨⟨g1, g2⟩, g3, g4⟩ := HO.out.place hp
        dsimp only at g1 g2 g3 g4
        have s1 := dgT_size (n := h) (by omega) (by omega)
        have s2 := dgT_size (n := l) (by omega) (by omega)
        have HDh : Hid (∀ p : Cls wr, Calls Tryd.prog 28 #[.int .i64 h] p.W fun e w'' => e = .returned (.string (dgT h)) ∧ ∃ p' : Cls wr, w'' = p'.W) := fun p => Cls.call (dec_any h (by omega) (by omega) p.W)
        have HDl : Hid (∀ p : Cls wr, Calls Tryd.prog 28 #[.int .i64 l] p.W fun e w'' => e = .returned (.string (dgT l)) ∧ ∃ p' : Cls wr, w'' = p'.W) := fun p => Cls.call (dec_any l (by omega) (by omega) p.W)
        have y2 : ∀ p : Cls wr, p.W.cell? ⟨w.heap.size, 2, none⟩ = some (.int .i64 h) := fun p => Cls.cell (X.cell 2) p
        have y3 : ∀ p : Cls wr, p.W.cell? ⟨w.heap.size, 3, none⟩ = some (.int .i64 l) := fun p => Cls.cell (X.cell 3) p
        have b1 := add_str t1 spA (by show t1.size + 1 ≤ _; omega)
        have b2 := add_str (t1 ++ spA) (dgT h) (by rw [ByteArray.size_append, s1]; show t1.size + 1 + 1 ≤ _; omega)
        have b3 := add_str (t1 ++ spA ++ dgT h) dotA (by rw [ByteArray.size_append, ByteArray.size_append, s1]; show t1.size + 1 + 1 + 1 ≤ _; omega)
        have b4 := add4 t1 h l (by omega) (by omega) (by omega) (by omega) (by omega)
        rw [← h2] at b4
        generalize t1 ++ spA ++ dgT h ++ dotA = z3 at *
        generalize t1 ++ spA ++ dgT h = z2 at *
        generalize t1 ++ spA = z1 at *
        clear hsj h2 hc hp HO s1 s2 g1 g2 g3 g4 hsz
        generalize dgT h = dh at *
        generalize dgT l = dl at *
        go_wp2_with fail
        refine wp_region_cls (by kernel_rfl) (by kernel_rfl) ?_
        repeat (go_big_quiet_step (first | (go_at_call 28; with_reducible exact HDh.out _) | (go_at_call 28; with_reducible exact HDl.out _)))
        refine wpQuiet_nil ?_
        rintro _ ⟨⟨W, hX⟩, rfl⟩
        go_wp2_with fail
        go_roundw
        case rel => exact ⟨j + 1, by omega, by go_num, HQ.out _ HQ2.out, X.on hX, hB.trans (hX.mono hB.size)⟩
        case measure => simp [intOf]; omega
      · have e0 : (((T[j].toNat : Nat) : Int) == 98) = false := by rw [hc]; rfl
        have e1 : (((T[j].toNat : Nat) : Int) == 110) = true := by rw [hc]; rfl
        have h2 : t2 = spT t1 n := by rw [hsj, pieceT, if_neg (by omega), if_pos hc]
        have s1 := wordB_le (HO.out.name hp)
        dsimp only at s1
        have b1 := add_str t1 spA (by show t1.size + 1 ≤ _; omega)
        have b2 := add2 t1 n (by omega) (by omega)
        rw [← h2] at b2
        generalize t1 ++ spA = z1 at *
        have x4 := X.cell 4
        clear hsj h2 hc hp HO s1 hsz
        go_wp2_with fail
        go_roundw
        case rel => exact ⟨j + 1, by omega, by go_num, HQ.out _ HQ2.out, X, hB⟩
        case measure => simp [intOf]; omega
      · have e0 : (((T[j].toNat : Nat) : Int) == 98) = false := by rw [hc]; rfl
        have e1 : (((T[j].toNat : Nat) : Int) == 110) = false := by rw [hc]; rfl
        have e2 : (((T[j].toNat : Nat) : Int) == 102) = true := by rw [hc]; rfl
        have h2 : t2 = spT t1 f := by rw [hsj, pieceT, if_neg (by omega), if_neg (by omega), if_pos hc]
        have s1 := wordB_le (HO.out.flight hp)
        dsimp only at s1
        have b1 := add_str t1 spA (by show t1.size + 1 ≤ _; omega)
        have b2 := add2 t1 f (by omega) (by omega)
        rw [← h2] at b2
        generalize t1 ++ spA = z1 at *
        have x5 := X.cell 5
        clear hsj h2 hc hp HO s1 hsz
        go_wp2_with fail
        go_roundw
        case rel => exact ⟨j + 1, by omega, by go_num, HQ.out _ HQ2.out, X, hB⟩
        case measure => simp [intOf]; omega
      · have e0 : (((T[j].toNat : Nat) : Int) == 98) = false := by rw [hc]; rfl
        have e1 : (((T[j].toNat : Nat) : Int) == 110) = false := by rw [hc]; rfl
        have e2 : (((T[j].toNat : Nat) : Int) == 102) = false := by rw [hc]; rfl
        have e3 : (((T[j].toNat : Nat) : Int) == 115) = true := by rw [hc]; rfl
        have h2 : t2 = spT t1 (seatT r c) := by rw [hsj, pieceT, if_neg (by omega), if_neg (by omega), if_neg (by omega), if_pos hc]
        have hse := HO.out.seat hp
        have s1 : (seatT r c).size ≤ 3 := seatT_size hse
        have HL : Hid (∀ W : World, Calls Tryd.prog 29 #[seatV r c] W fun e w' => e = .returned (.string (seatT r c)) ∧ Below W.heap.size W w') := fun W => l02T_any r c hse W
        have b1 := add_str t1 spA (by show t1.size + 1 ≤ _; omega)
        have b2 := add2 t1 (seatT r c) (by omega) (by omega)
        rw [← h2] at b2
        generalize t1 ++ spA = z1 at *
        generalize seatT r c = st at *
        have x6 := X.cell 6
        have x7 := X.cell 7
        clear hsj h2 hc hp HO s1 hsz hse
        go_wp2_with (first | (go_at_call 29; refine (HL.out _).mono ?_; rintro e w' ⟨rfl, hb⟩))
        go_roundw
        case rel => exact ⟨j + 1, by omega, by go_num, HQ.out _ HQ2.out, X.on hb, hB.trans (hb.mono hB.size)⟩
        case measure => simp [intOf]; omega
      · have e0 : (((T[j].toNat : Nat) : Int) == 98) = false := by rw [hc]; rfl
        have e1 : (((T[j].toNat : Nat) : Int) == 110) = false := by rw [hc]; rfl
        have e2 : (((T[j].toNat : Nat) : Int) == 102) = false := by rw [hc]; rfl
        have e3 : (((T[j].toNat : Nat) : Int) == 115) = false := by rw [hc]; rfl
        have e4 : (((T[j].toNat : Nat) : Int) == 116) = true := by rw [hc]; rfl
        have h2 : t2 = spT t1 (dgT o) := by rw [hsj, pieceT, if_neg (by omega), if_neg (by omega), if_neg (by omega), if_neg (by omega)]
        obtain ⟨g1, g2⟩ := HO.out.other hp
        dsimp only at g1 g2
        have s1 := dgT_size (n := o) (by omega) (by omega)
        have HL : Hid (∀ W : World, Calls Tryd.prog 28 #[.int .i64 o] W fun e w' => e = .returned (.string (dgT o)) ∧ Below W.heap.size W w') := fun W => dec_any o (by omega) (by omega) W
        have b1 := add_str t1 spA (by show t1.size + 1 ≤ _; omega)
        have b2 := add2 t1 (dgT o) (by omega) (by omega)
        rw [← h2] at b2
        generalize t1 ++ spA = z1 at *
        generalize dgT o = st at *
        have x8 := X.cell 8
        clear hsj h2 hc hp HO s1 hsz g1 g2
        go_wp2_with (first | (go_at_call 28; refine (HL.out _).mono ?_; rintro e w' ⟨rfl, hb⟩))
        go_roundw
        case rel => exact ⟨j + 1, by omega, by go_num, HQ.out _ HQ2.out, X.on hb, hB.trans (hb.mono hB.size)⟩
        case measure => simp [intOf]; omega
    · obtain rfl : j = T.size := by omega
      have HR : Hid (soT ⟨k, t, h, l, n, f, r, c, o⟩ T.size = reqT ⟨k, t, h, l, n, f, r, c, o⟩) := by have := HE.out; rw [hTd] at this; exact this
      clear HS HW HT HS0 HTk HE HO
      generalize soT ⟨k, t, h, l, n, f, r, c, o⟩ T.size = t1 at *
      go_wp2_with fail
      go_ret
      exact ⟨by rw [HR.out]; rfl, hB⟩

set_option maxHeartbeats 1000000 in
theorem sReqText_any (k t h l : Int) (n f : ByteArray) (r c o : Int) (w : World) (hn : n.size ≤ maxLen) (hf : f.size ≤ maxLen) :
    Calls Tryd.prog 6 #[reqV k t h l n f r c o] w fun e w' => e = .returned (.string (reqT ⟨k, t, h, l, n, f, r, c, o⟩)) ∧ Below w.heap.size w w' := by
  have HRR : Hid (∀ W : World, Calls Tryd.prog 11 #[reqV k t h l n f r c o] W fun e w' => e = .returned (.bool (reqB ⟨k, t, h, l, n, f, r, c, o⟩)) ∧ Below W.heap.size W w') := fun W => sReqRight_any k t h l n f r c o W hn hf
  cases hr : reqB ⟨k, t, h, l, n, f, r, c, o⟩
  · rw [hr] at HRR
    have HR : Hid (reqT ⟨k, t, h, l, n, f, r, c, o⟩ = ⟨#[]⟩) := by rw [Hid, reqT, if_neg (by rw [hr]; simp)]
    generalize reqT ⟨k, t, h, l, n, f, r, c, o⟩ = R at *
    clear hr
    go_enter Tryd.func6, Tryd.ntmps6
    go_wp2_with fail
    refine (HRR.out _).mono ?_
    rintro e w1 ⟨rfl, hb1⟩
    go_wp2_with fail
    go_ret
    exact ⟨by rw [HR.out]; rfl, boxR hb1⟩
  · rw [hr] at HRR
    have HL : Hid (∀ W : World, Calls Tryd.prog 12 #[reqV k t h l n f r c o] W fun e w' => e = .returned (.string (reqT ⟨k, t, h, l, n, f, r, c, o⟩)) ∧ Below W.heap.size W w') := fun W => l06Text_any k t h l n f r c o W hr
    generalize reqT ⟨k, t, h, l, n, f, r, c, o⟩ = R at *
    clear hr
    have X0 := Block.new w (rqCs k t h l n f r c o) 30
    go_enter Tryd.func6, Tryd.ntmps6
    go_wp2_with fail
    refine (HRR.out _).mono ?_
    rintro e w1 ⟨rfl, hb1⟩
    have X := X0.on hb1
    have hB := boxR hb1
    have x1 := X.cell
    clear X0 hb1 X
    go_wp2_with fail
    refine (HL.out _).mono ?_
    rintro e w2 ⟨rfl, hb2⟩
    go_wp2_with fail
    go_ret
    exact ⟨rfl, hB.trans (hb2.mono hB.size)⟩
end Go.Proofs.YtpncnkihfijmaaaDoor
