/-
  impl.ReqText: the walk, kinds 2, 4. (By gen_reqti.py.)
-/
import Derived.Test.YtpncnkihfijmaaaDoorReqTI
namespace Go.Proofs.YtpncnkihfijmaaaDoor
open Go.ChangeShapes Go.WideShapes Go.ChangeAt Go.RowKit Go.ChangeMaps
set_option maxRecDepth 10000
set_option linter.unusedSimpArgs false
set_option linter.unusedVariables false

set_option maxRecDepth 100000 in
set_option maxHeartbeats 4000000 in
theorem iReqText_2 (t h l : Int) (n f : ByteArray) (r c o : Int) (w : World) (hn : n.size ≤ maxLen) (hf : f.size ≤ maxLen) (hr : reqB ⟨2, t, h, l, n, f, r, c, o⟩ = true) (hk : KwT w) (hp : PowT w) :
    Calls Tryd.prog 8 #[reqV 2 t h l n f r c o] w fun e w' => e = .returned (.string (reqT ⟨2, t, h, l, n, f, r, c, o⟩)) ∧ Below w.heap.size w w' := by
  have ho := req_ok hr
  have ht := ho.tok
  have hpl := ho.place rfl
  dsimp only at *
  have hRS := reqT_size ⟨2, t, h, l, n, f, r, c, o⟩
  have hRJ : (⟨(Lib.join ((kindT 2 :: dgT t :: [placeT h l, n]).map (·.data.toList)) spA.data.toList).toArray⟩ : ByteArray) = reqT ⟨2, t, h, l, n, f, r, c, o⟩ := join_req hr
  have HRR : Hid (∀ W : World, Calls Tryd.prog 14 #[reqV 2 t h l n f r c o] W fun e w' => e = .returned (.bool true) ∧ Below W.heap.size W w') := fun W => by
    have := iReqRight_any 2 t h l n f r c o W hn hf
    rw [hr] at this
    exact this
  have HA : Hid (∀ W : World, Calls Tryd.prog 17 #[reqV 2 t h l n f r c o] W fun e w' => e = .returned (.iface 72 (.agg #[.int .i64 h, .int .i64 l, .string n])) ∧ Below W.heap.size W w') := fun W => askOf_2 t h l n f r c o W
  have hm : ∀ (w : World), (method 229 72 (.agg #[.int .i64 h, .int .i64 l, .string n]) "loop.example/g00755/impl.words").run Tryd.prog w = .ok (96, .agg #[.int .i64 h, .int .i64 l, .string n]) w := fun w => by kernel_rfl
  have HW : Hid (WordsAt w 96 (.agg #[.int .i64 h, .int .i64 l, .string n]) [placeT h l, n] 2) := words_at (fun W => words_name h l n (by omega) (by omega) (by omega) (by omega) W)
  have HD : Hid (∀ W : World, Below w.heap.size w W → Calls Tryd.prog 15 #[.int .i64 t] W fun e w' => e = .returned (.string (dgT t)) ∧ Below W.heap.size W w' ∧ Below w.heap.size w w') := fun W hW => (digits3 t (by omega) (by omega) W (hp.on hW)).mono fun e w' ⟨h1, h2⟩ => ⟨h1, h2, hW.trans (h2.mono hW.size)⟩
  have HKc : Hid (∀ W : World, Below w.heap.size w W → W.cell? ⟨0, 2, none⟩ = some (.string (kindT 2))) := fun W hW => (hk.on hW) 2 _ rfl
  clear ho ht hr hk hp hn hf hpl
  generalize reqT ⟨2, t, h, l, n, f, r, c, o⟩ = R at *
  generalize kindT 2 = kk at *
  generalize dgT t = tk at *
  generalize placeT h l = p0 at *
  have HJ : Hid (∀ (W : World) (A : Option Addr) (c : Nat), W.ownsRow w.heap.size 9 1 (.slice A 4 c) 4 (strsC (kk :: tk :: [p0, n])) → Calls Tryd.prog 16 #[.slice A 4 c, .string spA] W fun e w' => e = .returned (.string R) ∧ Below W.heap.size W w') := fun W A c h => join_own h rfl (by decide) (by decide) hRJ (by omega)
  clear hRJ hRS
  have X0 := Block.new w (#[.int .i64 2, .int .i64 t, .int .i64 h, .int .i64 l, .string n, .string f, .int .i64 r, .int .i64 c, .int .i64 o]) 30
  go_enter Tryd.func8, Tryd.ntmps8
  go_wp2_with fail
  refine (HRR.out _).mono ?_
  rintro e w1 ⟨rfl, hb1⟩
  have hB1 := boxR hb1
  have X1 := X0.on hb1
  have x1 := X1.cell
  have k1 := HKc.out w1 hB1
  clear hb1 X0 HRR
  go_wp2_with fail
  go_region_with (go_at_call 15; (with_reducible refine (HD.out _ ?_).mono ?_); (first | exact hB1.drew | exact hB1); rintro e w2 ⟨rfl, hb2, hB2⟩; have k2 := HKc.out w2 hB2; have X2 := X1.drew.on hb2; have x2 := X2.cell)
  all_goals
    clear x1 k1 X1 hB1 HD HKc hb2 k2
    have hr2 := World.ownsRow_lit (base := w.heap.size) (e := 9) (size := 1) w2 #[.string kk, .string tk] 2 hB2.size (by decide) rfl
    have hBa := hB2.alloc hB2.size (.cells #[.string kk, .string tk] 9)
    have x2 := fun o => (X2.alloc o).cell
    go_wp2_with fail
    refine (HA.out _).mono ?_
    rintro e w3 ⟨rfl, hb3⟩
    have hr3 := ownsRow_below hr2 hb3
    have hB3 := hBa.trans (hb3.mono hBa.size)
    clear hb3 hr2 hBa hB2 x2 X2 HA
    go_wp2_with fail
    refine (HW.out _ hB3).mono ?_
    rintro e w4 ⟨⟨A4, c4, rfl, hown4⟩, hb4, hB4⟩
    have hr4 := ownsRow_below hr3 hb4
    clear hb4 hr3 hB3 HW hm
    go_wp2_with (first | (at_builtin; refine wpList_append_lies Tryd.underlying37 info_str rfl (by decide) (by decide) w.heap.size _ 2 _ rfl hr4 w4.heap.size A4 2 c4 _ rfl (Lies.own hown4) (fun u hu => strsC_one _ u hu) (by omega) hB4.size ?_; intro v5 w5 hown5 hg5))
    obtain ⟨A5, c5, rfl, -, -⟩ := own_form hown5
    have hB5 := below_of_grown hg5 hB4.size (fun g e => (hr4.lt _ e).1)
    refine (HJ.out w5 A5 c5 hown5).mono ?_
    rintro e w6 ⟨rfl, hb6⟩
    go_wp2_with fail
    go_ret
    exact ⟨rfl, (hB4.trans hB5).trans (hb6.mono (Nat.le_trans hB4.size hB5.size))⟩

set_option maxRecDepth 100000 in
set_option maxHeartbeats 4000000 in
theorem iReqText_4 (t h l : Int) (n f : ByteArray) (r c o : Int) (w : World) (hn : n.size ≤ maxLen) (hf : f.size ≤ maxLen) (hr : reqB ⟨4, t, h, l, n, f, r, c, o⟩ = true) (hk : KwT w) (hp : PowT w) :
    Calls Tryd.prog 8 #[reqV 4 t h l n f r c o] w fun e w' => e = .returned (.string (reqT ⟨4, t, h, l, n, f, r, c, o⟩)) ∧ Below w.heap.size w w' := by
  have ho := req_ok hr
  have ht := ho.tok
  have hpl := ho.place rfl
  dsimp only at *
  have hRS := reqT_size ⟨4, t, h, l, n, f, r, c, o⟩
  have hRJ : (⟨(Lib.join ((kindT 4 :: dgT t :: [placeT h l, f, seatT r c]).map (·.data.toList)) spA.data.toList).toArray⟩ : ByteArray) = reqT ⟨4, t, h, l, n, f, r, c, o⟩ := join_req hr
  have HRR : Hid (∀ W : World, Calls Tryd.prog 14 #[reqV 4 t h l n f r c o] W fun e w' => e = .returned (.bool true) ∧ Below W.heap.size W w') := fun W => by
    have := iReqRight_any 4 t h l n f r c o W hn hf
    rw [hr] at this
    exact this
  have HA : Hid (∀ W : World, Calls Tryd.prog 17 #[reqV 4 t h l n f r c o] W fun e w' => e = .returned (.iface 75 (.agg #[.int .i64 h, .int .i64 l, .string f, .int .i64 r, .int .i64 c])) ∧ Below W.heap.size W w') := fun W => askOf_4 t h l n f r c o W
  have hm : ∀ (w : World), (method 229 75 (.agg #[.int .i64 h, .int .i64 l, .string f, .int .i64 r, .int .i64 c]) "loop.example/g00755/impl.words").run Tryd.prog w = .ok (87, .agg #[.int .i64 h, .int .i64 l, .string f, .int .i64 r, .int .i64 c]) w := fun w => by kernel_rfl
  have HW : Hid (WordsAt w 87 (.agg #[.int .i64 h, .int .i64 l, .string f, .int .i64 r, .int .i64 c]) [placeT h l, f, seatT r c] 3) := words_at (fun W => words_seat h l f r c (by omega) (by omega) (by omega) (by omega) W)
  have HD : Hid (∀ W : World, Below w.heap.size w W → Calls Tryd.prog 15 #[.int .i64 t] W fun e w' => e = .returned (.string (dgT t)) ∧ Below W.heap.size W w' ∧ Below w.heap.size w w') := fun W hW => (digits3 t (by omega) (by omega) W (hp.on hW)).mono fun e w' ⟨h1, h2⟩ => ⟨h1, h2, hW.trans (h2.mono hW.size)⟩
  have HKc : Hid (∀ W : World, Below w.heap.size w W → W.cell? ⟨0, 4, none⟩ = some (.string (kindT 4))) := fun W hW => (hk.on hW) 4 _ rfl
  clear ho ht hr hk hp hn hf hpl
  generalize reqT ⟨4, t, h, l, n, f, r, c, o⟩ = R at *
  generalize kindT 4 = kk at *
  generalize dgT t = tk at *
  generalize placeT h l = p0 at *
  generalize seatT r c = p2 at *
  have HJ : Hid (∀ (W : World) (A : Option Addr) (c : Nat), W.ownsRow w.heap.size 9 1 (.slice A 5 c) 5 (strsC (kk :: tk :: [p0, f, p2])) → Calls Tryd.prog 16 #[.slice A 5 c, .string spA] W fun e w' => e = .returned (.string R) ∧ Below W.heap.size W w') := fun W A c h => join_own h rfl (by decide) (by decide) hRJ (by omega)
  clear hRJ hRS
  have X0 := Block.new w (#[.int .i64 4, .int .i64 t, .int .i64 h, .int .i64 l, .string n, .string f, .int .i64 r, .int .i64 c, .int .i64 o]) 30
  go_enter Tryd.func8, Tryd.ntmps8
  go_wp2_with fail
  refine (HRR.out _).mono ?_
  rintro e w1 ⟨rfl, hb1⟩
  have hB1 := boxR hb1
  have X1 := X0.on hb1
  have x1 := X1.cell
  have k1 := HKc.out w1 hB1
  clear hb1 X0 HRR
  go_wp2_with fail
  go_region_with (go_at_call 15; (with_reducible refine (HD.out _ ?_).mono ?_); (first | exact hB1.drew | exact hB1); rintro e w2 ⟨rfl, hb2, hB2⟩; have k2 := HKc.out w2 hB2; have X2 := X1.drew.on hb2; have x2 := X2.cell)
  all_goals
    clear x1 k1 X1 hB1 HD HKc hb2 k2
    have hr2 := World.ownsRow_lit (base := w.heap.size) (e := 9) (size := 1) w2 #[.string kk, .string tk] 2 hB2.size (by decide) rfl
    have hBa := hB2.alloc hB2.size (.cells #[.string kk, .string tk] 9)
    have x2 := fun o => (X2.alloc o).cell
    go_wp2_with fail
    refine (HA.out _).mono ?_
    rintro e w3 ⟨rfl, hb3⟩
    have hr3 := ownsRow_below hr2 hb3
    have hB3 := hBa.trans (hb3.mono hBa.size)
    clear hb3 hr2 hBa hB2 x2 X2 HA
    go_wp2_with fail
    refine (HW.out _ hB3).mono ?_
    rintro e w4 ⟨⟨A4, c4, rfl, hown4⟩, hb4, hB4⟩
    have hr4 := ownsRow_below hr3 hb4
    clear hb4 hr3 hB3 HW hm
    go_wp2_with (first | (at_builtin; refine wpList_append_lies Tryd.underlying37 info_str rfl (by decide) (by decide) w.heap.size _ 2 _ rfl hr4 w4.heap.size A4 3 c4 _ rfl (Lies.own hown4) (fun u hu => strsC_one _ u hu) (by omega) hB4.size ?_; intro v5 w5 hown5 hg5))
    obtain ⟨A5, c5, rfl, -, -⟩ := own_form hown5
    have hB5 := below_of_grown hg5 hB4.size (fun g e => (hr4.lt _ e).1)
    refine (HJ.out w5 A5 c5 hown5).mono ?_
    rintro e w6 ⟨rfl, hb6⟩
    go_wp2_with fail
    go_ret
    exact ⟨rfl, (hB4.trans hB5).trans (hb6.mono (Nat.le_trans hB4.size hB5.size))⟩
end Go.Proofs.YtpncnkihfijmaaaDoor
