/-
  impl.ReqRight: the walk. (By gen_reqri.py.)
-/
import Derived.Test.YtpncnkihfijmaaaDoorReqOf
import Derived.Test.YtpncnkihfijmaaaDoorReqEql
namespace Go.Proofs.YtpncnkihfijmaaaDoor
open Go.ChangeShapes Go.WideShapes Go.ChangeAt Go.RowKit Go.ChangeMaps
set_option maxRecDepth 10000
set_option linter.unusedSimpArgs false
set_option linter.unusedVariables false

set_option maxRecDepth 100000 in
set_option maxHeartbeats 8000000 in
theorem iReqRight_1 (t h l : Int) (n f : ByteArray) (r c o : Int) (w : World) (hn : n.size ≤ maxLen) (hf : f.size ≤ maxLen) (ht : inB t 1 999 = true) :
    Calls Tryd.prog 14 #[reqV 1 t h l n f r c o] w fun e w' => e = .returned (.bool (true && decide ((⟨1, t, 0, 0, ⟨#[]⟩, ⟨#[]⟩, 0, 0, 0⟩ : RQ) = ⟨1, t, h, l, n, f, r, c, o⟩))) ∧ Below w.heap.size w w' := by
  have hm : ∀ (w : World), (method 229 70 (.agg #[]) "loop.example/g00755/impl.right").run Tryd.prog w = .ok (93, .agg #[]) w := fun w => by kernel_rfl
  have HA : Hid (∀ W : World, Calls Tryd.prog 17 #[reqV 1 t h l n f r c o] W fun e w' => e = .returned (.iface 70 (.agg #[])) ∧ Below W.heap.size W w') := fun W => askOf_1 t h l n f r c o W
  have ht1 : ¬ t < 1 := by simp only [inB, Bool.and_eq_true, decide_eq_true_eq] at ht; omega
  have ht2 : ¬ 999 < t := by simp only [inB, Bool.and_eq_true, decide_eq_true_eq] at ht; omega
  clear ht
  have hq : ∀ W : World, (binOp .eql 30 (reqV 1 t 0 0 ⟨#[]⟩ ⟨#[]⟩ 0 0 0) (reqV 1 t h l n f r c o)).run Tryd.prog W = .ok (.bool (decide ((⟨1, t, 0, 0, ⟨#[]⟩, ⟨#[]⟩, 0, 0, 0⟩ : RQ) = ⟨1, t, h, l, n, f, r, c, o⟩))) W := fun W => req_eql _ _ _ _ _ _ _ _ _ _ _ _ _ _ _ _ _ _ W
  have Hr0 : Hid (∀ W : World, ∀ p : Cls W, Calls Tryd.prog 93 #[.agg #[]] p.W fun e w'' => e = .returned (.bool true) ∧ ∃ p' : Cls W, w'' = p'.W) := fun W p => Cls.call (right_none p.W)
  generalize decide ((⟨1, t, 0, 0, ⟨#[]⟩, ⟨#[]⟩, 0, 0, 0⟩ : RQ) = ⟨1, t, h, l, n, f, r, c, o⟩) = z at *
  have hBl := Block.new w #[.int .i64 1, .int .i64 t, .int .i64 h, .int .i64 l, .string n, .string f, .int .i64 r, .int .i64 c, .int .i64 o] 30
  go_enter Tryd.func14, Tryd.ntmps14
  go_wp2_with fail
  refine (HA.out _).mono ?_
  rintro e w1 ⟨rfl, hb1⟩
  have hB := boxR hb1
  have X := hBl.on hb1
  have x1 := X.cell
  clear hBl hb1
  go_wp2_with fail
  have Hr := Lib.hid (Hr0.out w1)
  have Hq : Hid (∀ p : Cls w1, Calls Tryd.prog 30 #[.iface 70 (.agg #[]), .int .i64 t] p.W fun e w'' => e = .returned (reqV 1 t 0 0 ⟨#[]⟩ ⟨#[]⟩ 0 0 0) ∧ ∃ p' : Cls w1, w'' = p'.W) := fun p => Cls.call (reqOf_1 t  p.W)
  have e0 : ∀ (p : Cls w1) (i : Nat) (v : Value), w1.cell? ⟨w.heap.size, i, none⟩ = some v → p.W.cell? ⟨w.heap.size, i, none⟩ = some v := fun p i v hv => Cls.cell hv p
  have y0 := fun p => e0 p 0 _ (x1 0)
  have y1 := fun p => e0 p 1 _ (x1 1)
  have y2 := fun p => e0 p 2 _ (x1 2)
  have y3 := fun p => e0 p 3 _ (x1 3)
  have y4 := fun p => e0 p 4 _ (x1 4)
  have y5 := fun p => e0 p 5 _ (x1 5)
  have y6 := fun p => e0 p 6 _ (x1 6)
  have y7 := fun p => e0 p 7 _ (x1 7)
  have y8 := fun p => e0 p 8 _ (x1 8)
  clear e0 Hr0
  all_goals
    refine wp_region_cls (by kernel_rfl) (by kernel_rfl) ?_
    repeat (go_big_quiet_step (first | (go_at_call 93; exact Hr.out _) | (go_at_call 30; exact Hq.out _)))
    refine wpQuiet_nil ?_
    rintro _ ⟨⟨W, hX⟩, rfl⟩
    go_wp2_with fail
    go_ret
    exact ⟨ret_bool (by simp), hB.trans (hX.mono hB.size)⟩

set_option maxRecDepth 100000 in
set_option maxHeartbeats 8000000 in
theorem iReqRight_2 (t h l : Int) (n f : ByteArray) (r c o : Int) (w : World) (hn : n.size ≤ maxLen) (hf : f.size ≤ maxLen) (ht : inB t 1 999 = true) :
    Calls Tryd.prog 14 #[reqV 2 t h l n f r c o] w fun e w' => e = .returned (.bool (((inB h 1 4 && inB l 1 9) && wordB n) && decide ((⟨2, t, h, l, n, ⟨#[]⟩, 0, 0, 0⟩ : RQ) = ⟨2, t, h, l, n, f, r, c, o⟩))) ∧ Below w.heap.size w w' := by
  have hm : ∀ (w : World), (method 229 72 (.agg #[.int .i64 h, .int .i64 l, .string n]) "loop.example/g00755/impl.right").run Tryd.prog w = .ok (95, .agg #[.int .i64 h, .int .i64 l, .string n]) w := fun w => by kernel_rfl
  have HA : Hid (∀ W : World, Calls Tryd.prog 17 #[reqV 2 t h l n f r c o] W fun e w' => e = .returned (.iface 72 (.agg #[.int .i64 h, .int .i64 l, .string n])) ∧ Below W.heap.size W w') := fun W => askOf_2 t h l n f r c o W
  have ht1 : ¬ t < 1 := by simp only [inB, Bool.and_eq_true, decide_eq_true_eq] at ht; omega
  have ht2 : ¬ 999 < t := by simp only [inB, Bool.and_eq_true, decide_eq_true_eq] at ht; omega
  clear ht
  have hq : ∀ W : World, (binOp .eql 30 (reqV 2 t h l n ⟨#[]⟩ 0 0 0) (reqV 2 t h l n f r c o)).run Tryd.prog W = .ok (.bool (decide ((⟨2, t, h, l, n, ⟨#[]⟩, 0, 0, 0⟩ : RQ) = ⟨2, t, h, l, n, f, r, c, o⟩))) W := fun W => req_eql _ _ _ _ _ _ _ _ _ _ _ _ _ _ _ _ _ _ W
  have Hr0 : Hid (∀ W : World, ∀ p : Cls W, Calls Tryd.prog 95 #[.agg #[.int .i64 h, .int .i64 l, .string n]] p.W fun e w'' => e = .returned (.bool ((inB h 1 4 && inB l 1 9) && wordB n)) ∧ ∃ p' : Cls W, w'' = p'.W) := fun W p => Cls.call (right_name h l n p.W hn)
  generalize decide ((⟨2, t, h, l, n, ⟨#[]⟩, 0, 0, 0⟩ : RQ) = ⟨2, t, h, l, n, f, r, c, o⟩) = z at *
  generalize ((inB h 1 4 && inB l 1 9) && wordB n) = b at *
  have hBl := Block.new w #[.int .i64 2, .int .i64 t, .int .i64 h, .int .i64 l, .string n, .string f, .int .i64 r, .int .i64 c, .int .i64 o] 30
  go_enter Tryd.func14, Tryd.ntmps14
  go_wp2_with fail
  refine (HA.out _).mono ?_
  rintro e w1 ⟨rfl, hb1⟩
  have hB := boxR hb1
  have X := hBl.on hb1
  have x1 := X.cell
  clear hBl hb1
  go_wp2_with fail
  have Hr := Lib.hid (Hr0.out w1)
  have Hq : Hid (∀ p : Cls w1, Calls Tryd.prog 30 #[.iface 72 (.agg #[.int .i64 h, .int .i64 l, .string n]), .int .i64 t] p.W fun e w'' => e = .returned (reqV 2 t h l n ⟨#[]⟩ 0 0 0) ∧ ∃ p' : Cls w1, w'' = p'.W) := fun p => Cls.call (reqOf_2 t h l n p.W)
  have e0 : ∀ (p : Cls w1) (i : Nat) (v : Value), w1.cell? ⟨w.heap.size, i, none⟩ = some v → p.W.cell? ⟨w.heap.size, i, none⟩ = some v := fun p i v hv => Cls.cell hv p
  have y0 := fun p => e0 p 0 _ (x1 0)
  have y1 := fun p => e0 p 1 _ (x1 1)
  have y2 := fun p => e0 p 2 _ (x1 2)
  have y3 := fun p => e0 p 3 _ (x1 3)
  have y4 := fun p => e0 p 4 _ (x1 4)
  have y5 := fun p => e0 p 5 _ (x1 5)
  have y6 := fun p => e0 p 6 _ (x1 6)
  have y7 := fun p => e0 p 7 _ (x1 7)
  have y8 := fun p => e0 p 8 _ (x1 8)
  clear e0 Hr0
  cases b
  all_goals
    refine wp_region_cls (by kernel_rfl) (by kernel_rfl) ?_
    repeat (go_big_quiet_step (first | (go_at_call 95; exact Hr.out _) | (go_at_call 30; exact Hq.out _)))
    refine wpQuiet_nil ?_
    rintro _ ⟨⟨W, hX⟩, rfl⟩
    go_wp2_with fail
    go_ret
    exact ⟨ret_bool (by simp), hB.trans (hX.mono hB.size)⟩

set_option maxRecDepth 100000 in
set_option maxHeartbeats 8000000 in
theorem iReqRight_3 (t h l : Int) (n f : ByteArray) (r c o : Int) (w : World) (hn : n.size ≤ maxLen) (hf : f.size ≤ maxLen) (ht : inB t 1 999 = true) :
    Calls Tryd.prog 14 #[reqV 3 t h l n f r c o] w fun e w' => e = .returned (.bool (((inB h 1 4 && inB l 1 9) && (wordB f && seatB r c)) && decide ((⟨3, t, h, l, ⟨#[]⟩, f, r, c, 0⟩ : RQ) = ⟨3, t, h, l, n, f, r, c, o⟩))) ∧ Below w.heap.size w w' := by
  have hm : ∀ (w : World), (method 229 74 (.agg #[.int .i64 h, .int .i64 l, .string f, .int .i64 r, .int .i64 c]) "loop.example/g00755/impl.right").run Tryd.prog w = .ok (86, .agg #[.int .i64 h, .int .i64 l, .string f, .int .i64 r, .int .i64 c]) w := fun w => by kernel_rfl
  have HA : Hid (∀ W : World, Calls Tryd.prog 17 #[reqV 3 t h l n f r c o] W fun e w' => e = .returned (.iface 74 (.agg #[.int .i64 h, .int .i64 l, .string f, .int .i64 r, .int .i64 c])) ∧ Below W.heap.size W w') := fun W => askOf_3 t h l n f r c o W
  have ht1 : ¬ t < 1 := by simp only [inB, Bool.and_eq_true, decide_eq_true_eq] at ht; omega
  have ht2 : ¬ 999 < t := by simp only [inB, Bool.and_eq_true, decide_eq_true_eq] at ht; omega
  clear ht
  have hq : ∀ W : World, (binOp .eql 30 (reqV 3 t h l ⟨#[]⟩ f r c 0) (reqV 3 t h l n f r c o)).run Tryd.prog W = .ok (.bool (decide ((⟨3, t, h, l, ⟨#[]⟩, f, r, c, 0⟩ : RQ) = ⟨3, t, h, l, n, f, r, c, o⟩))) W := fun W => req_eql _ _ _ _ _ _ _ _ _ _ _ _ _ _ _ _ _ _ W
  have Hr0 : Hid (∀ W : World, ∀ p : Cls W, Calls Tryd.prog 86 #[.agg #[.int .i64 h, .int .i64 l, .string f, .int .i64 r, .int .i64 c]] p.W fun e w'' => e = .returned (.bool ((inB h 1 4 && inB l 1 9) && (wordB f && seatB r c))) ∧ ∃ p' : Cls W, w'' = p'.W) := fun W p => Cls.call (right_seat h l f r c p.W hf)
  generalize decide ((⟨3, t, h, l, ⟨#[]⟩, f, r, c, 0⟩ : RQ) = ⟨3, t, h, l, n, f, r, c, o⟩) = z at *
  generalize ((inB h 1 4 && inB l 1 9) && (wordB f && seatB r c)) = b at *
  have hBl := Block.new w #[.int .i64 3, .int .i64 t, .int .i64 h, .int .i64 l, .string n, .string f, .int .i64 r, .int .i64 c, .int .i64 o] 30
  go_enter Tryd.func14, Tryd.ntmps14
  go_wp2_with fail
  refine (HA.out _).mono ?_
  rintro e w1 ⟨rfl, hb1⟩
  have hB := boxR hb1
  have X := hBl.on hb1
  have x1 := X.cell
  clear hBl hb1
  go_wp2_with fail
  have Hr := Lib.hid (Hr0.out w1)
  have Hq : Hid (∀ p : Cls w1, Calls Tryd.prog 30 #[.iface 74 (.agg #[.int .i64 h, .int .i64 l, .string f, .int .i64 r, .int .i64 c]), .int .i64 t] p.W fun e w'' => e = .returned (reqV 3 t h l ⟨#[]⟩ f r c 0) ∧ ∃ p' : Cls w1, w'' = p'.W) := fun p => Cls.call (reqOf_3 t h l f r c p.W)
  have e0 : ∀ (p : Cls w1) (i : Nat) (v : Value), w1.cell? ⟨w.heap.size, i, none⟩ = some v → p.W.cell? ⟨w.heap.size, i, none⟩ = some v := fun p i v hv => Cls.cell hv p
  have y0 := fun p => e0 p 0 _ (x1 0)
  have y1 := fun p => e0 p 1 _ (x1 1)
  have y2 := fun p => e0 p 2 _ (x1 2)
  have y3 := fun p => e0 p 3 _ (x1 3)
  have y4 := fun p => e0 p 4 _ (x1 4)
  have y5 := fun p => e0 p 5 _ (x1 5)
  have y6 := fun p => e0 p 6 _ (x1 6)
  have y7 := fun p => e0 p 7 _ (x1 7)
  have y8 := fun p => e0 p 8 _ (x1 8)
  clear e0 Hr0
  cases b
  all_goals
    refine wp_region_cls (by kernel_rfl) (by kernel_rfl) ?_
    repeat (go_big_quiet_step (first | (go_at_call 86; exact Hr.out _) | (go_at_call 30; exact Hq.out _)))
    refine wpQuiet_nil ?_
    rintro _ ⟨⟨W, hX⟩, rfl⟩
    go_wp2_with fail
    go_ret
    exact ⟨ret_bool (by simp), hB.trans (hX.mono hB.size)⟩

set_option maxRecDepth 100000 in
set_option maxHeartbeats 8000000 in
theorem iReqRight_4 (t h l : Int) (n f : ByteArray) (r c o : Int) (w : World) (hn : n.size ≤ maxLen) (hf : f.size ≤ maxLen) (ht : inB t 1 999 = true) :
    Calls Tryd.prog 14 #[reqV 4 t h l n f r c o] w fun e w' => e = .returned (.bool (((inB h 1 4 && inB l 1 9) && (wordB f && seatB r c)) && decide ((⟨4, t, h, l, ⟨#[]⟩, f, r, c, 0⟩ : RQ) = ⟨4, t, h, l, n, f, r, c, o⟩))) ∧ Below w.heap.size w w' := by
  have hm : ∀ (w : World), (method 229 75 (.agg #[.int .i64 h, .int .i64 l, .string f, .int .i64 r, .int .i64 c]) "loop.example/g00755/impl.right").run Tryd.prog w = .ok (86, .agg #[.int .i64 h, .int .i64 l, .string f, .int .i64 r, .int .i64 c]) w := fun w => by kernel_rfl
  have HA : Hid (∀ W : World, Calls Tryd.prog 17 #[reqV 4 t h l n f r c o] W fun e w' => e = .returned (.iface 75 (.agg #[.int .i64 h, .int .i64 l, .string f, .int .i64 r, .int .i64 c])) ∧ Below W.heap.size W w') := fun W => askOf_4 t h l n f r c o W
  have ht1 : ¬ t < 1 := by simp only [inB, Bool.and_eq_true, decide_eq_true_eq] at ht; omega
  have ht2 : ¬ 999 < t := by simp only [inB, Bool.and_eq_true, decide_eq_true_eq] at ht; omega
  clear ht
  have hq : ∀ W : World, (binOp .eql 30 (reqV 4 t h l ⟨#[]⟩ f r c 0) (reqV 4 t h l n f r c o)).run Tryd.prog W = .ok (.bool (decide ((⟨4, t, h, l, ⟨#[]⟩, f, r, c, 0⟩ : RQ) = ⟨4, t, h, l, n, f, r, c, o⟩))) W := fun W => req_eql _ _ _ _ _ _ _ _ _ _ _ _ _ _ _ _ _ _ W
  have Hr0 : Hid (∀ W : World, ∀ p : Cls W, Calls Tryd.prog 86 #[.agg #[.int .i64 h, .int .i64 l, .string f, .int .i64 r, .int .i64 c]] p.W fun e w'' => e = .returned (.bool ((inB h 1 4 && inB l 1 9) && (wordB f && seatB r c))) ∧ ∃ p' : Cls W, w'' = p'.W) := fun W p => Cls.call (right_seat h l f r c p.W hf)
  generalize decide ((⟨4, t, h, l, ⟨#[]⟩, f, r, c, 0⟩ : RQ) = ⟨4, t, h, l, n, f, r, c, o⟩) = z at *
  generalize ((inB h 1 4 && inB l 1 9) && (wordB f && seatB r c)) = b at *
  have hBl := Block.new w #[.int .i64 4, .int .i64 t, .int .i64 h, .int .i64 l, .string n, .string f, .int .i64 r, .int .i64 c, .int .i64 o] 30
  go_enter Tryd.func14, Tryd.ntmps14
  go_wp2_with fail
  refine (HA.out _).mono ?_
  rintro e w1 ⟨rfl, hb1⟩
  have hB := boxR hb1
  have X := hBl.on hb1
  have x1 := X.cell
  clear hBl hb1
  go_wp2_with fail
  have Hr := Lib.hid (Hr0.out w1)
  have Hq : Hid (∀ p : Cls w1, Calls Tryd.prog 30 #[.iface 75 (.agg #[.int .i64 h, .int .i64 l, .string f, .int .i64 r, .int .i64 c]), .int .i64 t] p.W fun e w'' => e = .returned (reqV 4 t h l ⟨#[]⟩ f r c 0) ∧ ∃ p' : Cls w1, w'' = p'.W) := fun p => Cls.call (reqOf_4 t h l f r c p.W)
  have e0 : ∀ (p : Cls w1) (i : Nat) (v : Value), w1.cell? ⟨w.heap.size, i, none⟩ = some v → p.W.cell? ⟨w.heap.size, i, none⟩ = some v := fun p i v hv => Cls.cell hv p
  have y0 := fun p => e0 p 0 _ (x1 0)
  have y1 := fun p => e0 p 1 _ (x1 1)
  have y2 := fun p => e0 p 2 _ (x1 2)
  have y3 := fun p => e0 p 3 _ (x1 3)
  have y4 := fun p => e0 p 4 _ (x1 4)
  have y5 := fun p => e0 p 5 _ (x1 5)
  have y6 := fun p => e0 p 6 _ (x1 6)
  have y7 := fun p => e0 p 7 _ (x1 7)
  have y8 := fun p => e0 p 8 _ (x1 8)
  clear e0 Hr0
  cases b
  all_goals
    refine wp_region_cls (by kernel_rfl) (by kernel_rfl) ?_
    repeat (go_big_quiet_step (first | (go_at_call 86; exact Hr.out _) | (go_at_call 30; exact Hq.out _)))
    refine wpQuiet_nil ?_
    rintro _ ⟨⟨W, hX⟩, rfl⟩
    go_wp2_with fail
    go_ret
    exact ⟨ret_bool (by simp), hB.trans (hX.mono hB.size)⟩

set_option maxRecDepth 100000 in
set_option maxHeartbeats 8000000 in
theorem iReqRight_5 (t h l : Int) (n f : ByteArray) (r c o : Int) (w : World) (hn : n.size ≤ maxLen) (hf : f.size ≤ maxLen) (ht : inB t 1 999 = true) :
    Calls Tryd.prog 14 #[reqV 5 t h l n f r c o] w fun e w' => e = .returned (.bool ((inB h 1 4 && inB l 1 9) && decide ((⟨5, t, h, l, ⟨#[]⟩, ⟨#[]⟩, 0, 0, 0⟩ : RQ) = ⟨5, t, h, l, n, f, r, c, o⟩))) ∧ Below w.heap.size w w' := by
  have hm : ∀ (w : World), (method 229 77 (.agg #[.int .i64 h, .int .i64 l]) "loop.example/g00755/impl.right").run Tryd.prog w = .ok (81, .agg #[.int .i64 h, .int .i64 l]) w := fun w => by kernel_rfl
  have HA : Hid (∀ W : World, Calls Tryd.prog 17 #[reqV 5 t h l n f r c o] W fun e w' => e = .returned (.iface 77 (.agg #[.int .i64 h, .int .i64 l])) ∧ Below W.heap.size W w') := fun W => askOf_5 t h l n f r c o W
  have ht1 : ¬ t < 1 := by simp only [inB, Bool.and_eq_true, decide_eq_true_eq] at ht; omega
  have ht2 : ¬ 999 < t := by simp only [inB, Bool.and_eq_true, decide_eq_true_eq] at ht; omega
  clear ht
  have hq : ∀ W : World, (binOp .eql 30 (reqV 5 t h l ⟨#[]⟩ ⟨#[]⟩ 0 0 0) (reqV 5 t h l n f r c o)).run Tryd.prog W = .ok (.bool (decide ((⟨5, t, h, l, ⟨#[]⟩, ⟨#[]⟩, 0, 0, 0⟩ : RQ) = ⟨5, t, h, l, n, f, r, c, o⟩))) W := fun W => req_eql _ _ _ _ _ _ _ _ _ _ _ _ _ _ _ _ _ _ W
  have Hr0 : Hid (∀ W : World, ∀ p : Cls W, Calls Tryd.prog 81 #[.agg #[.int .i64 h, .int .i64 l]] p.W fun e w'' => e = .returned (.bool (inB h 1 4 && inB l 1 9)) ∧ ∃ p' : Cls W, w'' = p'.W) := fun W p => Cls.call (right_pnr h l p.W)
  generalize decide ((⟨5, t, h, l, ⟨#[]⟩, ⟨#[]⟩, 0, 0, 0⟩ : RQ) = ⟨5, t, h, l, n, f, r, c, o⟩) = z at *
  generalize (inB h 1 4 && inB l 1 9) = b at *
  have hBl := Block.new w #[.int .i64 5, .int .i64 t, .int .i64 h, .int .i64 l, .string n, .string f, .int .i64 r, .int .i64 c, .int .i64 o] 30
  go_enter Tryd.func14, Tryd.ntmps14
  go_wp2_with fail
  refine (HA.out _).mono ?_
  rintro e w1 ⟨rfl, hb1⟩
  have hB := boxR hb1
  have X := hBl.on hb1
  have x1 := X.cell
  clear hBl hb1
  go_wp2_with fail
  have Hr := Lib.hid (Hr0.out w1)
  have Hq : Hid (∀ p : Cls w1, Calls Tryd.prog 30 #[.iface 77 (.agg #[.int .i64 h, .int .i64 l]), .int .i64 t] p.W fun e w'' => e = .returned (reqV 5 t h l ⟨#[]⟩ ⟨#[]⟩ 0 0 0) ∧ ∃ p' : Cls w1, w'' = p'.W) := fun p => Cls.call (reqOf_5 t h l p.W)
  have e0 : ∀ (p : Cls w1) (i : Nat) (v : Value), w1.cell? ⟨w.heap.size, i, none⟩ = some v → p.W.cell? ⟨w.heap.size, i, none⟩ = some v := fun p i v hv => Cls.cell hv p
  have y0 := fun p => e0 p 0 _ (x1 0)
  have y1 := fun p => e0 p 1 _ (x1 1)
  have y2 := fun p => e0 p 2 _ (x1 2)
  have y3 := fun p => e0 p 3 _ (x1 3)
  have y4 := fun p => e0 p 4 _ (x1 4)
  have y5 := fun p => e0 p 5 _ (x1 5)
  have y6 := fun p => e0 p 6 _ (x1 6)
  have y7 := fun p => e0 p 7 _ (x1 7)
  have y8 := fun p => e0 p 8 _ (x1 8)
  clear e0 Hr0
  cases b
  all_goals
    refine wp_region_cls (by kernel_rfl) (by kernel_rfl) ?_
    repeat (go_big_quiet_step (first | (go_at_call 81; exact Hr.out _) | (go_at_call 30; exact Hq.out _)))
    refine wpQuiet_nil ?_
    rintro _ ⟨⟨W, hX⟩, rfl⟩
    go_wp2_with fail
    go_ret
    exact ⟨ret_bool (by simp), hB.trans (hX.mono hB.size)⟩

set_option maxRecDepth 100000 in
set_option maxHeartbeats 8000000 in
theorem iReqRight_6 (t h l : Int) (n f : ByteArray) (r c o : Int) (w : World) (hn : n.size ≤ maxLen) (hf : f.size ≤ maxLen) (ht : inB t 1 999 = true) :
    Calls Tryd.prog 14 #[reqV 6 t h l n f r c o] w fun e w' => e = .returned (.bool (((inB h 1 4 && inB l 1 9) && inB o 1 4) && decide ((⟨6, t, h, l, ⟨#[]⟩, ⟨#[]⟩, 0, 0, o⟩ : RQ) = ⟨6, t, h, l, n, f, r, c, o⟩))) ∧ Below w.heap.size w w' := by
  have hm : ∀ (w : World), (method 229 79 (.agg #[.int .i64 h, .int .i64 l, .int .i64 o]) "loop.example/g00755/impl.right").run Tryd.prog w = .ok (97, .agg #[.int .i64 h, .int .i64 l, .int .i64 o]) w := fun w => by kernel_rfl
  have HA : Hid (∀ W : World, Calls Tryd.prog 17 #[reqV 6 t h l n f r c o] W fun e w' => e = .returned (.iface 79 (.agg #[.int .i64 h, .int .i64 l, .int .i64 o])) ∧ Below W.heap.size W w') := fun W => askOf_6 t h l n f r c o W
  have ht1 : ¬ t < 1 := by simp only [inB, Bool.and_eq_true, decide_eq_true_eq] at ht; omega
  have ht2 : ¬ 999 < t := by simp only [inB, Bool.and_eq_true, decide_eq_true_eq] at ht; omega
  clear ht
  have hq : ∀ W : World, (binOp .eql 30 (reqV 6 t h l ⟨#[]⟩ ⟨#[]⟩ 0 0 o) (reqV 6 t h l n f r c o)).run Tryd.prog W = .ok (.bool (decide ((⟨6, t, h, l, ⟨#[]⟩, ⟨#[]⟩, 0, 0, o⟩ : RQ) = ⟨6, t, h, l, n, f, r, c, o⟩))) W := fun W => req_eql _ _ _ _ _ _ _ _ _ _ _ _ _ _ _ _ _ _ W
  have Hr0 : Hid (∀ W : World, ∀ p : Cls W, Calls Tryd.prog 97 #[.agg #[.int .i64 h, .int .i64 l, .int .i64 o]] p.W fun e w'' => e = .returned (.bool ((inB h 1 4 && inB l 1 9) && inB o 1 4)) ∧ ∃ p' : Cls W, w'' = p'.W) := fun W p => Cls.call (right_offer h l o p.W)
  generalize decide ((⟨6, t, h, l, ⟨#[]⟩, ⟨#[]⟩, 0, 0, o⟩ : RQ) = ⟨6, t, h, l, n, f, r, c, o⟩) = z at *
  generalize ((inB h 1 4 && inB l 1 9) && inB o 1 4) = b at *
  have hBl := Block.new w #[.int .i64 6, .int .i64 t, .int .i64 h, .int .i64 l, .string n, .string f, .int .i64 r, .int .i64 c, .int .i64 o] 30
  go_enter Tryd.func14, Tryd.ntmps14
  go_wp2_with fail
  refine (HA.out _).mono ?_
  rintro e w1 ⟨rfl, hb1⟩
  have hB := boxR hb1
  have X := hBl.on hb1
  have x1 := X.cell
  clear hBl hb1
  go_wp2_with fail
  have Hr := Lib.hid (Hr0.out w1)
  have Hq : Hid (∀ p : Cls w1, Calls Tryd.prog 30 #[.iface 79 (.agg #[.int .i64 h, .int .i64 l, .int .i64 o]), .int .i64 t] p.W fun e w'' => e = .returned (reqV 6 t h l ⟨#[]⟩ ⟨#[]⟩ 0 0 o) ∧ ∃ p' : Cls w1, w'' = p'.W) := fun p => Cls.call (reqOf_6 t h l o p.W)
  have e0 : ∀ (p : Cls w1) (i : Nat) (v : Value), w1.cell? ⟨w.heap.size, i, none⟩ = some v → p.W.cell? ⟨w.heap.size, i, none⟩ = some v := fun p i v hv => Cls.cell hv p
  have y0 := fun p => e0 p 0 _ (x1 0)
  have y1 := fun p => e0 p 1 _ (x1 1)
  have y2 := fun p => e0 p 2 _ (x1 2)
  have y3 := fun p => e0 p 3 _ (x1 3)
  have y4 := fun p => e0 p 4 _ (x1 4)
  have y5 := fun p => e0 p 5 _ (x1 5)
  have y6 := fun p => e0 p 6 _ (x1 6)
  have y7 := fun p => e0 p 7 _ (x1 7)
  have y8 := fun p => e0 p 8 _ (x1 8)
  clear e0 Hr0
  cases b
  all_goals
    refine wp_region_cls (by kernel_rfl) (by kernel_rfl) ?_
    repeat (go_big_quiet_step (first | (go_at_call 97; exact Hr.out _) | (go_at_call 30; exact Hq.out _)))
    refine wpQuiet_nil ?_
    rintro _ ⟨⟨W, hX⟩, rfl⟩
    go_wp2_with fail
    go_ret
    exact ⟨ret_bool (by simp), hB.trans (hX.mono hB.size)⟩

set_option maxRecDepth 100000 in
set_option maxHeartbeats 8000000 in
theorem iReqRight_7 (t h l : Int) (n f : ByteArray) (r c o : Int) (w : World) (hn : n.size ≤ maxLen) (hf : f.size ≤ maxLen) (ht : inB t 1 999 = true) :
    Calls Tryd.prog 14 #[reqV 7 t h l n f r c o] w fun e w' => e = .returned (.bool ((inB h 1 4 && inB l 1 9) && decide ((⟨7, t, h, l, ⟨#[]⟩, ⟨#[]⟩, 0, 0, 0⟩ : RQ) = ⟨7, t, h, l, n, f, r, c, o⟩))) ∧ Below w.heap.size w w' := by
  have hm : ∀ (w : World), (method 229 80 (.agg #[.int .i64 h, .int .i64 l]) "loop.example/g00755/impl.right").run Tryd.prog w = .ok (81, .agg #[.int .i64 h, .int .i64 l]) w := fun w => by kernel_rfl
  have HA : Hid (∀ W : World, Calls Tryd.prog 17 #[reqV 7 t h l n f r c o] W fun e w' => e = .returned (.iface 80 (.agg #[.int .i64 h, .int .i64 l])) ∧ Below W.heap.size W w') := fun W => askOf_7 t h l n f r c o W
  have ht1 : ¬ t < 1 := by simp only [inB, Bool.and_eq_true, decide_eq_true_eq] at ht; omega
  have ht2 : ¬ 999 < t := by simp only [inB, Bool.and_eq_true, decide_eq_true_eq] at ht; omega
  clear ht
  have hq : ∀ W : World, (binOp .eql 30 (reqV 7 t h l ⟨#[]⟩ ⟨#[]⟩ 0 0 0) (reqV 7 t h l n f r c o)).run Tryd.prog W = .ok (.bool (decide ((⟨7, t, h, l, ⟨#[]⟩, ⟨#[]⟩, 0, 0, 0⟩ : RQ) = ⟨7, t, h, l, n, f, r, c, o⟩))) W := fun W => req_eql _ _ _ _ _ _ _ _ _ _ _ _ _ _ _ _ _ _ W
  have Hr0 : Hid (∀ W : World, ∀ p : Cls W, Calls Tryd.prog 81 #[.agg #[.int .i64 h, .int .i64 l]] p.W fun e w'' => e = .returned (.bool (inB h 1 4 && inB l 1 9)) ∧ ∃ p' : Cls W, w'' = p'.W) := fun W p => Cls.call (right_pnr h l p.W)
  generalize decide ((⟨7, t, h, l, ⟨#[]⟩, ⟨#[]⟩, 0, 0, 0⟩ : RQ) = ⟨7, t, h, l, n, f, r, c, o⟩) = z at *
  generalize (inB h 1 4 && inB l 1 9) = b at *
  have hBl := Block.new w #[.int .i64 7, .int .i64 t, .int .i64 h, .int .i64 l, .string n, .string f, .int .i64 r, .int .i64 c, .int .i64 o] 30
  go_enter Tryd.func14, Tryd.ntmps14
  go_wp2_with fail
  refine (HA.out _).mono ?_
  rintro e w1 ⟨rfl, hb1⟩
  have hB := boxR hb1
  have X := hBl.on hb1
  have x1 := X.cell
  clear hBl hb1
  go_wp2_with fail
  have Hr := Lib.hid (Hr0.out w1)
  have Hq : Hid (∀ p : Cls w1, Calls Tryd.prog 30 #[.iface 80 (.agg #[.int .i64 h, .int .i64 l]), .int .i64 t] p.W fun e w'' => e = .returned (reqV 7 t h l ⟨#[]⟩ ⟨#[]⟩ 0 0 0) ∧ ∃ p' : Cls w1, w'' = p'.W) := fun p => Cls.call (reqOf_7 t h l p.W)
  have e0 : ∀ (p : Cls w1) (i : Nat) (v : Value), w1.cell? ⟨w.heap.size, i, none⟩ = some v → p.W.cell? ⟨w.heap.size, i, none⟩ = some v := fun p i v hv => Cls.cell hv p
  have y0 := fun p => e0 p 0 _ (x1 0)
  have y1 := fun p => e0 p 1 _ (x1 1)
  have y2 := fun p => e0 p 2 _ (x1 2)
  have y3 := fun p => e0 p 3 _ (x1 3)
  have y4 := fun p => e0 p 4 _ (x1 4)
  have y5 := fun p => e0 p 5 _ (x1 5)
  have y6 := fun p => e0 p 6 _ (x1 6)
  have y7 := fun p => e0 p 7 _ (x1 7)
  have y8 := fun p => e0 p 8 _ (x1 8)
  clear e0 Hr0
  cases b
  all_goals
    refine wp_region_cls (by kernel_rfl) (by kernel_rfl) ?_
    repeat (go_big_quiet_step (first | (go_at_call 81; exact Hr.out _) | (go_at_call 30; exact Hq.out _)))
    refine wpQuiet_nil ?_
    rintro _ ⟨⟨W, hX⟩, rfl⟩
    go_wp2_with fail
    go_ret
    exact ⟨ret_bool (by simp), hB.trans (hX.mono hB.size)⟩

set_option maxRecDepth 100000 in
set_option maxHeartbeats 8000000 in
theorem iReqRight_8 (t h l : Int) (n f : ByteArray) (r c o : Int) (w : World) (hn : n.size ≤ maxLen) (hf : f.size ≤ maxLen) (ht : inB t 1 999 = true) :
    Calls Tryd.prog 14 #[reqV 8 t h l n f r c o] w fun e w' => e = .returned (.bool ((inB h 1 4 && inB l 1 9) && decide ((⟨8, t, h, l, ⟨#[]⟩, ⟨#[]⟩, 0, 0, 0⟩ : RQ) = ⟨8, t, h, l, n, f, r, c, o⟩))) ∧ Below w.heap.size w w' := by
  have hm : ∀ (w : World), (method 229 81 (.agg #[.int .i64 h, .int .i64 l]) "loop.example/g00755/impl.right").run Tryd.prog w = .ok (81, .agg #[.int .i64 h, .int .i64 l]) w := fun w => by kernel_rfl
  have HA : Hid (∀ W : World, Calls Tryd.prog 17 #[reqV 8 t h l n f r c o] W fun e w' => e = .returned (.iface 81 (.agg #[.int .i64 h, .int .i64 l])) ∧ Below W.heap.size W w') := fun W => askOf_8 t h l n f r c o W
  have ht1 : ¬ t < 1 := by simp only [inB, Bool.and_eq_true, decide_eq_true_eq] at ht; omega
  have ht2 : ¬ 999 < t := by simp only [inB, Bool.and_eq_true, decide_eq_true_eq] at ht; omega
  clear ht
  have hq : ∀ W : World, (binOp .eql 30 (reqV 8 t h l ⟨#[]⟩ ⟨#[]⟩ 0 0 0) (reqV 8 t h l n f r c o)).run Tryd.prog W = .ok (.bool (decide ((⟨8, t, h, l, ⟨#[]⟩, ⟨#[]⟩, 0, 0, 0⟩ : RQ) = ⟨8, t, h, l, n, f, r, c, o⟩))) W := fun W => req_eql _ _ _ _ _ _ _ _ _ _ _ _ _ _ _ _ _ _ W
  have Hr0 : Hid (∀ W : World, ∀ p : Cls W, Calls Tryd.prog 81 #[.agg #[.int .i64 h, .int .i64 l]] p.W fun e w'' => e = .returned (.bool (inB h 1 4 && inB l 1 9)) ∧ ∃ p' : Cls W, w'' = p'.W) := fun W p => Cls.call (right_pnr h l p.W)
  generalize decide ((⟨8, t, h, l, ⟨#[]⟩, ⟨#[]⟩, 0, 0, 0⟩ : RQ) = ⟨8, t, h, l, n, f, r, c, o⟩) = z at *
  generalize (inB h 1 4 && inB l 1 9) = b at *
  have hBl := Block.new w #[.int .i64 8, .int .i64 t, .int .i64 h, .int .i64 l, .string n, .string f, .int .i64 r, .int .i64 c, .int .i64 o] 30
  go_enter Tryd.func14, Tryd.ntmps14
  go_wp2_with fail
  refine (HA.out _).mono ?_
  rintro e w1 ⟨rfl, hb1⟩
  have hB := boxR hb1
  have X := hBl.on hb1
  have x1 := X.cell
  clear hBl hb1
  go_wp2_with fail
  have Hr := Lib.hid (Hr0.out w1)
  have Hq : Hid (∀ p : Cls w1, Calls Tryd.prog 30 #[.iface 81 (.agg #[.int .i64 h, .int .i64 l]), .int .i64 t] p.W fun e w'' => e = .returned (reqV 8 t h l ⟨#[]⟩ ⟨#[]⟩ 0 0 0) ∧ ∃ p' : Cls w1, w'' = p'.W) := fun p => Cls.call (reqOf_8 t h l p.W)
  have e0 : ∀ (p : Cls w1) (i : Nat) (v : Value), w1.cell? ⟨w.heap.size, i, none⟩ = some v → p.W.cell? ⟨w.heap.size, i, none⟩ = some v := fun p i v hv => Cls.cell hv p
  have y0 := fun p => e0 p 0 _ (x1 0)
  have y1 := fun p => e0 p 1 _ (x1 1)
  have y2 := fun p => e0 p 2 _ (x1 2)
  have y3 := fun p => e0 p 3 _ (x1 3)
  have y4 := fun p => e0 p 4 _ (x1 4)
  have y5 := fun p => e0 p 5 _ (x1 5)
  have y6 := fun p => e0 p 6 _ (x1 6)
  have y7 := fun p => e0 p 7 _ (x1 7)
  have y8 := fun p => e0 p 8 _ (x1 8)
  clear e0 Hr0
  cases b
  all_goals
    refine wp_region_cls (by kernel_rfl) (by kernel_rfl) ?_
    repeat (go_big_quiet_step (first | (go_at_call 81; exact Hr.out _) | (go_at_call 30; exact Hq.out _)))
    refine wpQuiet_nil ?_
    rintro _ ⟨⟨W, hX⟩, rfl⟩
    go_wp2_with fail
    go_ret
    exact ⟨ret_bool (by simp), hB.trans (hX.mono hB.size)⟩

set_option maxRecDepth 100000 in
set_option maxHeartbeats 8000000 in
theorem iReqRight_9 (t h l : Int) (n f : ByteArray) (r c o : Int) (w : World) (hn : n.size ≤ maxLen) (hf : f.size ≤ maxLen) (ht : inB t 1 999 = true) :
    Calls Tryd.prog 14 #[reqV 9 t h l n f r c o] w fun e w' => e = .returned (.bool ((wordB f) && decide ((⟨9, t, 0, 0, ⟨#[]⟩, f, 0, 0, 0⟩ : RQ) = ⟨9, t, h, l, n, f, r, c, o⟩))) ∧ Below w.heap.size w w' := by
  have hm : ∀ (w : World), (method 229 83 (.agg #[.string f]) "loop.example/g00755/impl.right").run Tryd.prog w = .ok (99, .agg #[.string f]) w := fun w => by kernel_rfl
  have HA : Hid (∀ W : World, Calls Tryd.prog 17 #[reqV 9 t h l n f r c o] W fun e w' => e = .returned (.iface 83 (.agg #[.string f])) ∧ Below W.heap.size W w') := fun W => askOf_9 t h l n f r c o W
  have ht1 : ¬ t < 1 := by simp only [inB, Bool.and_eq_true, decide_eq_true_eq] at ht; omega
  have ht2 : ¬ 999 < t := by simp only [inB, Bool.and_eq_true, decide_eq_true_eq] at ht; omega
  clear ht
  have hq : ∀ W : World, (binOp .eql 30 (reqV 9 t 0 0 ⟨#[]⟩ f 0 0 0) (reqV 9 t h l n f r c o)).run Tryd.prog W = .ok (.bool (decide ((⟨9, t, 0, 0, ⟨#[]⟩, f, 0, 0, 0⟩ : RQ) = ⟨9, t, h, l, n, f, r, c, o⟩))) W := fun W => req_eql _ _ _ _ _ _ _ _ _ _ _ _ _ _ _ _ _ _ W
  have Hr0 : Hid (∀ W : World, ∀ p : Cls W, Calls Tryd.prog 99 #[.agg #[.string f]] p.W fun e w'' => e = .returned (.bool (wordB f)) ∧ ∃ p' : Cls W, w'' = p'.W) := fun W p => Cls.call (right_map f p.W hf)
  generalize decide ((⟨9, t, 0, 0, ⟨#[]⟩, f, 0, 0, 0⟩ : RQ) = ⟨9, t, h, l, n, f, r, c, o⟩) = z at *
  generalize (wordB f) = b at *
  have hBl := Block.new w #[.int .i64 9, .int .i64 t, .int .i64 h, .int .i64 l, .string n, .string f, .int .i64 r, .int .i64 c, .int .i64 o] 30
  go_enter Tryd.func14, Tryd.ntmps14
  go_wp2_with fail
  refine (HA.out _).mono ?_
  rintro e w1 ⟨rfl, hb1⟩
  have hB := boxR hb1
  have X := hBl.on hb1
  have x1 := X.cell
  clear hBl hb1
  go_wp2_with fail
  have Hr := Lib.hid (Hr0.out w1)
  have Hq : Hid (∀ p : Cls w1, Calls Tryd.prog 30 #[.iface 83 (.agg #[.string f]), .int .i64 t] p.W fun e w'' => e = .returned (reqV 9 t 0 0 ⟨#[]⟩ f 0 0 0) ∧ ∃ p' : Cls w1, w'' = p'.W) := fun p => Cls.call (reqOf_9 t f p.W)
  have e0 : ∀ (p : Cls w1) (i : Nat) (v : Value), w1.cell? ⟨w.heap.size, i, none⟩ = some v → p.W.cell? ⟨w.heap.size, i, none⟩ = some v := fun p i v hv => Cls.cell hv p
  have y0 := fun p => e0 p 0 _ (x1 0)
  have y1 := fun p => e0 p 1 _ (x1 1)
  have y2 := fun p => e0 p 2 _ (x1 2)
  have y3 := fun p => e0 p 3 _ (x1 3)
  have y4 := fun p => e0 p 4 _ (x1 4)
  have y5 := fun p => e0 p 5 _ (x1 5)
  have y6 := fun p => e0 p 6 _ (x1 6)
  have y7 := fun p => e0 p 7 _ (x1 7)
  have y8 := fun p => e0 p 8 _ (x1 8)
  clear e0 Hr0
  cases b
  all_goals
    refine wp_region_cls (by kernel_rfl) (by kernel_rfl) ?_
    repeat (go_big_quiet_step (first | (go_at_call 99; exact Hr.out _) | (go_at_call 30; exact Hq.out _)))
    refine wpQuiet_nil ?_
    rintro _ ⟨⟨W, hX⟩, rfl⟩
    go_wp2_with fail
    go_ret
    exact ⟨ret_bool (by simp), hB.trans (hX.mono hB.size)⟩

set_option maxRecDepth 100000 in
set_option maxHeartbeats 8000000 in
theorem iReqRight_10 (t h l : Int) (n f : ByteArray) (r c o : Int) (w : World) (hn : n.size ≤ maxLen) (hf : f.size ≤ maxLen) (ht : inB t 1 999 = true) :
    Calls Tryd.prog 14 #[reqV 10 t h l n f r c o] w fun e w' => e = .returned (.bool (true && decide ((⟨10, t, 0, 0, ⟨#[]⟩, ⟨#[]⟩, 0, 0, 0⟩ : RQ) = ⟨10, t, h, l, n, f, r, c, o⟩))) ∧ Below w.heap.size w w' := by
  have hm : ∀ (w : World), (method 229 84 (.agg #[]) "loop.example/g00755/impl.right").run Tryd.prog w = .ok (93, .agg #[]) w := fun w => by kernel_rfl
  have HA : Hid (∀ W : World, Calls Tryd.prog 17 #[reqV 10 t h l n f r c o] W fun e w' => e = .returned (.iface 84 (.agg #[])) ∧ Below W.heap.size W w') := fun W => askOf_10 t h l n f r c o W
  have ht1 : ¬ t < 1 := by simp only [inB, Bool.and_eq_true, decide_eq_true_eq] at ht; omega
  have ht2 : ¬ 999 < t := by simp only [inB, Bool.and_eq_true, decide_eq_true_eq] at ht; omega
  clear ht
  have hq : ∀ W : World, (binOp .eql 30 (reqV 10 t 0 0 ⟨#[]⟩ ⟨#[]⟩ 0 0 0) (reqV 10 t h l n f r c o)).run Tryd.prog W = .ok (.bool (decide ((⟨10, t, 0, 0, ⟨#[]⟩, ⟨#[]⟩, 0, 0, 0⟩ : RQ) = ⟨10, t, h, l, n, f, r, c, o⟩))) W := fun W => req_eql _ _ _ _ _ _ _ _ _ _ _ _ _ _ _ _ _ _ W
  have Hr0 : Hid (∀ W : World, ∀ p : Cls W, Calls Tryd.prog 93 #[.agg #[]] p.W fun e w'' => e = .returned (.bool true) ∧ ∃ p' : Cls W, w'' = p'.W) := fun W p => Cls.call (right_none p.W)
  generalize decide ((⟨10, t, 0, 0, ⟨#[]⟩, ⟨#[]⟩, 0, 0, 0⟩ : RQ) = ⟨10, t, h, l, n, f, r, c, o⟩) = z at *
  have hBl := Block.new w #[.int .i64 10, .int .i64 t, .int .i64 h, .int .i64 l, .string n, .string f, .int .i64 r, .int .i64 c, .int .i64 o] 30
  go_enter Tryd.func14, Tryd.ntmps14
  go_wp2_with fail
  refine (HA.out _).mono ?_
  rintro e w1 ⟨rfl, hb1⟩
  have hB := boxR hb1
  have X := hBl.on hb1
  have x1 := X.cell
  clear hBl hb1
  go_wp2_with fail
  have Hr := Lib.hid (Hr0.out w1)
  have Hq : Hid (∀ p : Cls w1, Calls Tryd.prog 30 #[.iface 84 (.agg #[]), .int .i64 t] p.W fun e w'' => e = .returned (reqV 10 t 0 0 ⟨#[]⟩ ⟨#[]⟩ 0 0 0) ∧ ∃ p' : Cls w1, w'' = p'.W) := fun p => Cls.call (reqOf_10 t  p.W)
  have e0 : ∀ (p : Cls w1) (i : Nat) (v : Value), w1.cell? ⟨w.heap.size, i, none⟩ = some v → p.W.cell? ⟨w.heap.size, i, none⟩ = some v := fun p i v hv => Cls.cell hv p
  have y0 := fun p => e0 p 0 _ (x1 0)
  have y1 := fun p => e0 p 1 _ (x1 1)
  have y2 := fun p => e0 p 2 _ (x1 2)
  have y3 := fun p => e0 p 3 _ (x1 3)
  have y4 := fun p => e0 p 4 _ (x1 4)
  have y5 := fun p => e0 p 5 _ (x1 5)
  have y6 := fun p => e0 p 6 _ (x1 6)
  have y7 := fun p => e0 p 7 _ (x1 7)
  have y8 := fun p => e0 p 8 _ (x1 8)
  clear e0 Hr0
  all_goals
    refine wp_region_cls (by kernel_rfl) (by kernel_rfl) ?_
    repeat (go_big_quiet_step (first | (go_at_call 93; exact Hr.out _) | (go_at_call 30; exact Hq.out _)))
    refine wpQuiet_nil ?_
    rintro _ ⟨⟨W, hX⟩, rfl⟩
    go_wp2_with fail
    go_ret
    exact ⟨ret_bool (by simp), hB.trans (hX.mono hB.size)⟩

set_option maxHeartbeats 2000000 in
theorem iReqRight_no (k t h l : Int) (n f : ByteArray) (r c o : Int) (w : World) (hk : inB k 1 10 = false) :
    Calls Tryd.prog 14 #[reqV k t h l n f r c o] w fun e w' => e = .returned (.bool false) ∧ Below w.heap.size w w' := by
  have HA : Hid (∀ W : World, Calls Tryd.prog 17 #[reqV k t h l n f r c o] W fun e w' => e = .returned .nilIface ∧ Below W.heap.size W w') := fun W => askOf_no k t h l n f r c o W hk
  clear hk
  go_enter Tryd.func14, Tryd.ntmps14
  go_wp2_with fail
  refine (HA.out _).mono ?_
  rintro e w1 ⟨rfl, hb1⟩
  have hB := boxR hb1
  clear hb1
  go_wp2_with fail
  go_ret
  exact ⟨rfl, hB⟩

set_option maxHeartbeats 2000000 in
theorem iReqRight_t1 (t h l : Int) (n f : ByteArray) (r c o : Int) (w : World) (ht : inB t 1 999 = false) :
    Calls Tryd.prog 14 #[reqV 1 t h l n f r c o] w fun e w' => e = .returned (.bool false) ∧ Below w.heap.size w w' := by
  have HA : Hid (∀ W : World, Calls Tryd.prog 17 #[reqV 1 t h l n f r c o] W fun e w' => e = .returned (.iface 70 (.agg #[])) ∧ Below W.heap.size W w') := fun W => askOf_1 t h l n f r c o W
  have hBl := Block.new w #[.int .i64 1, .int .i64 t, .int .i64 h, .int .i64 l, .string n, .string f, .int .i64 r, .int .i64 c, .int .i64 o] 30
  have ht0 : t < 1 ∨ 999 < t := by
    rcases Int.lt_or_le t 1 with h1 | h1
    · exact .inl h1
    · rcases Int.lt_or_le 999 t with h2 | h2
      · exact .inr h2
      · rw [inB, decide_eq_true h1, decide_eq_true h2] at ht; cases ht
  clear ht
  rcases ht0 with ht1 | ht1
  all_goals
    go_enter Tryd.func14, Tryd.ntmps14
    go_wp2_with fail
    refine (HA.out _).mono ?_
    rintro e w1 ⟨rfl, hb1⟩
    have hB := boxR hb1
    have x1 := (hBl.on hb1).cell
    clear hb1
    go_wp2_with fail
    go_ret
    exact ⟨rfl, hB⟩

set_option maxHeartbeats 2000000 in
theorem iReqRight_t2 (t h l : Int) (n f : ByteArray) (r c o : Int) (w : World) (ht : inB t 1 999 = false) :
    Calls Tryd.prog 14 #[reqV 2 t h l n f r c o] w fun e w' => e = .returned (.bool false) ∧ Below w.heap.size w w' := by
  have HA : Hid (∀ W : World, Calls Tryd.prog 17 #[reqV 2 t h l n f r c o] W fun e w' => e = .returned (.iface 72 (.agg #[.int .i64 h, .int .i64 l, .string n])) ∧ Below W.heap.size W w') := fun W => askOf_2 t h l n f r c o W
  have hBl := Block.new w #[.int .i64 2, .int .i64 t, .int .i64 h, .int .i64 l, .string n, .string f, .int .i64 r, .int .i64 c, .int .i64 o] 30
  have ht0 : t < 1 ∨ 999 < t := by
    rcases Int.lt_or_le t 1 with h1 | h1
    · exact .inl h1
    · rcases Int.lt_or_le 999 t with h2 | h2
      · exact .inr h2
      · rw [inB, decide_eq_true h1, decide_eq_true h2] at ht; cases ht
  clear ht
  rcases ht0 with ht1 | ht1
  all_goals
    go_enter Tryd.func14, Tryd.ntmps14
    go_wp2_with fail
    refine (HA.out _).mono ?_
    rintro e w1 ⟨rfl, hb1⟩
    have hB := boxR hb1
    have x1 := (hBl.on hb1).cell
    clear hb1
    go_wp2_with fail
    go_ret
    exact ⟨rfl, hB⟩

set_option maxHeartbeats 2000000 in
theorem iReqRight_t3 (t h l : Int) (n f : ByteArray) (r c o : Int) (w : World) (ht : inB t 1 999 = false) :
    Calls Tryd.prog 14 #[reqV 3 t h l n f r c o] w fun e w' => e = .returned (.bool false) ∧ Below w.heap.size w w' := by
  have HA : Hid (∀ W : World, Calls Tryd.prog 17 #[reqV 3 t h l n f r c o] W fun e w' => e = .returned (.iface 74 (.agg #[.int .i64 h, .int .i64 l, .string f, .int .i64 r, .int .i64 c])) ∧ Below W.heap.size W w') := fun W => askOf_3 t h l n f r c o W
  have hBl := Block.new w #[.int .i64 3, .int .i64 t, .int .i64 h, .int .i64 l, .string n, .string f, .int .i64 r, .int .i64 c, .int .i64 o] 30
  have ht0 : t < 1 ∨ 999 < t := by
    rcases Int.lt_or_le t 1 with h1 | h1
    · exact .inl h1
    · rcases Int.lt_or_le 999 t with h2 | h2
      · exact .inr h2
      · rw [inB, decide_eq_true h1, decide_eq_true h2] at ht; cases ht
  clear ht
  rcases ht0 with ht1 | ht1
  all_goals
    go_enter Tryd.func14, Tryd.ntmps14
    go_wp2_with fail
    refine (HA.out _).mono ?_
    rintro e w1 ⟨rfl, hb1⟩
    have hB := boxR hb1
    have x1 := (hBl.on hb1).cell
    clear hb1
    go_wp2_with fail
    go_ret
    exact ⟨rfl, hB⟩

set_option maxHeartbeats 2000000 in
theorem iReqRight_t4 (t h l : Int) (n f : ByteArray) (r c o : Int) (w : World) (ht : inB t 1 999 = false) :
    Calls Tryd.prog 14 #[reqV 4 t h l n f r c o] w fun e w' => e = .returned (.bool false) ∧ Below w.heap.size w w' := by
  have HA : Hid (∀ W : World, Calls Tryd.prog 17 #[reqV 4 t h l n f r c o] W fun e w' => e = .returned (.iface 75 (.agg #[.int .i64 h, .int .i64 l, .string f, .int .i64 r, .int .i64 c])) ∧ Below W.heap.size W w') := fun W => askOf_4 t h l n f r c o W
  have hBl := Block.new w #[.int .i64 4, .int .i64 t, .int .i64 h, .int .i64 l, .string n, .string f, .int .i64 r, .int .i64 c, .int .i64 o] 30
  have ht0 : t < 1 ∨ 999 < t := by
    rcases Int.lt_or_le t 1 with h1 | h1
    · exact .inl h1
    · rcases Int.lt_or_le 999 t with h2 | h2
      · exact .inr h2
      · rw [inB, decide_eq_true h1, decide_eq_true h2] at ht; cases ht
  clear ht
  rcases ht0 with ht1 | ht1
  all_goals
    go_enter Tryd.func14, Tryd.ntmps14
    go_wp2_with fail
    refine (HA.out _).mono ?_
    rintro e w1 ⟨rfl, hb1⟩
    have hB := boxR hb1
    have x1 := (hBl.on hb1).cell
    clear hb1
    go_wp2_with fail
    go_ret
    exact ⟨rfl, hB⟩

set_option maxHeartbeats 2000000 in
theorem iReqRight_t5 (t h l : Int) (n f : ByteArray) (r c o : Int) (w : World) (ht : inB t 1 999 = false) :
    Calls Tryd.prog 14 #[reqV 5 t h l n f r c o] w fun e w' => e = .returned (.bool false) ∧ Below w.heap.size w w' := by
  have HA : Hid (∀ W : World, Calls Tryd.prog 17 #[reqV 5 t h l n f r c o] W fun e w' => e = .returned (.iface 77 (.agg #[.int .i64 h, .int .i64 l])) ∧ Below W.heap.size W w') := fun W => askOf_5 t h l n f r c o W
  have hBl := Block.new w #[.int .i64 5, .int .i64 t, .int .i64 h, .int .i64 l, .string n, .string f, .int .i64 r, .int .i64 c, .int .i64 o] 30
  have ht0 : t < 1 ∨ 999 < t := by
    rcases Int.lt_or_le t 1 with h1 | h1
    · exact .inl h1
    · rcases Int.lt_or_le 999 t with h2 | h2
      · exact .inr h2
      · rw [inB, decide_eq_true h1, decide_eq_true h2] at ht; cases ht
  clear ht
  rcases ht0 with ht1 | ht1
  all_goals
    go_enter Tryd.func14, Tryd.ntmps14
    go_wp2_with fail
    refine (HA.out _).mono ?_
    rintro e w1 ⟨rfl, hb1⟩
    have hB := boxR hb1
    have x1 := (hBl.on hb1).cell
    clear hb1
    go_wp2_with fail
    go_ret
    exact ⟨rfl, hB⟩

set_option maxHeartbeats 2000000 in
theorem iReqRight_t6 (t h l : Int) (n f : ByteArray) (r c o : Int) (w : World) (ht : inB t 1 999 = false) :
    Calls Tryd.prog 14 #[reqV 6 t h l n f r c o] w fun e w' => e = .returned (.bool false) ∧ Below w.heap.size w w' := by
  have HA : Hid (∀ W : World, Calls Tryd.prog 17 #[reqV 6 t h l n f r c o] W fun e w' => e = .returned (.iface 79 (.agg #[.int .i64 h, .int .i64 l, .int .i64 o])) ∧ Below W.heap.size W w') := fun W => askOf_6 t h l n f r c o W
  have hBl := Block.new w #[.int .i64 6, .int .i64 t, .int .i64 h, .int .i64 l, .string n, .string f, .int .i64 r, .int .i64 c, .int .i64 o] 30
  have ht0 : t < 1 ∨ 999 < t := by
    rcases Int.lt_or_le t 1 with h1 | h1
    · exact .inl h1
    · rcases Int.lt_or_le 999 t with h2 | h2
      · exact .inr h2
      · rw [inB, decide_eq_true h1, decide_eq_true h2] at ht; cases ht
  clear ht
  rcases ht0 with ht1 | ht1
  all_goals
    go_enter Tryd.func14, Tryd.ntmps14
    go_wp2_with fail
    refine (HA.out _).mono ?_
    rintro e w1 ⟨rfl, hb1⟩
    have hB := boxR hb1
    have x1 := (hBl.on hb1).cell
    clear hb1
    go_wp2_with fail
    go_ret
    exact ⟨rfl, hB⟩

set_option maxHeartbeats 2000000 in
theorem iReqRight_t7 (t h l : Int) (n f : ByteArray) (r c o : Int) (w : World) (ht : inB t 1 999 = false) :
    Calls Tryd.prog 14 #[reqV 7 t h l n f r c o] w fun e w' => e = .returned (.bool false) ∧ Below w.heap.size w w' := by
  have HA : Hid (∀ W : World, Calls Tryd.prog 17 #[reqV 7 t h l n f r c o] W fun e w' => e = .returned (.iface 80 (.agg #[.int .i64 h, .int .i64 l])) ∧ Below W.heap.size W w') := fun W => askOf_7 t h l n f r c o W
  have hBl := Block.new w #[.int .i64 7, .int .i64 t, .int .i64 h, .int .i64 l, .string n, .string f, .int .i64 r, .int .i64 c, .int .i64 o] 30
  have ht0 : t < 1 ∨ 999 < t := by
    rcases Int.lt_or_le t 1 with h1 | h1
    · exact .inl h1
    · rcases Int.lt_or_le 999 t with h2 | h2
      · exact .inr h2
      · rw [inB, decide_eq_true h1, decide_eq_true h2] at ht; cases ht
  clear ht
  rcases ht0 with ht1 | ht1
  all_goals
    go_enter Tryd.func14, Tryd.ntmps14
    go_wp2_with fail
    refine (HA.out _).mono ?_
    rintro e w1 ⟨rfl, hb1⟩
    have hB := boxR hb1
    have x1 := (hBl.on hb1).cell
    clear hb1
    go_wp2_with fail
    go_ret
    exact ⟨rfl, hB⟩

set_option maxHeartbeats 2000000 in
theorem iReqRight_t8 (t h l : Int) (n f : ByteArray) (r c o : Int) (w : World) (ht : inB t 1 999 = false) :
    Calls Tryd.prog 14 #[reqV 8 t h l n f r c o] w fun e w' => e = .returned (.bool false) ∧ Below w.heap.size w w' := by
  have HA : Hid (∀ W : World, Calls Tryd.prog 17 #[reqV 8 t h l n f r c o] W fun e w' => e = .returned (.iface 81 (.agg #[.int .i64 h, .int .i64 l])) ∧ Below W.heap.size W w') := fun W => askOf_8 t h l n f r c o W
  have hBl := Block.new w #[.int .i64 8, .int .i64 t, .int .i64 h, .int .i64 l, .string n, .string f, .int .i64 r, .int .i64 c, .int .i64 o] 30
  have ht0 : t < 1 ∨ 999 < t := by
    rcases Int.lt_or_le t 1 with h1 | h1
    · exact .inl h1
    · rcases Int.lt_or_le 999 t with h2 | h2
      · exact .inr h2
      · rw [inB, decide_eq_true h1, decide_eq_true h2] at ht; cases ht
  clear ht
  rcases ht0 with ht1 | ht1
  all_goals
    go_enter Tryd.func14, Tryd.ntmps14
    go_wp2_with fail
    refine (HA.out _).mono ?_
    rintro e w1 ⟨rfl, hb1⟩
    have hB := boxR hb1
    have x1 := (hBl.on hb1).cell
    clear hb1
    go_wp2_with fail
    go_ret
    exact ⟨rfl, hB⟩

set_option maxHeartbeats 2000000 in
theorem iReqRight_t9 (t h l : Int) (n f : ByteArray) (r c o : Int) (w : World) (ht : inB t 1 999 = false) :
    Calls Tryd.prog 14 #[reqV 9 t h l n f r c o] w fun e w' => e = .returned (.bool false) ∧ Below w.heap.size w w' := by
  have HA : Hid (∀ W : World, Calls Tryd.prog 17 #[reqV 9 t h l n f r c o] W fun e w' => e = .returned (.iface 83 (.agg #[.string f])) ∧ Below W.heap.size W w') := fun W => askOf_9 t h l n f r c o W
  have hBl := Block.new w #[.int .i64 9, .int .i64 t, .int .i64 h, .int .i64 l, .string n, .string f, .int .i64 r, .int .i64 c, .int .i64 o] 30
  have ht0 : t < 1 ∨ 999 < t := by
    rcases Int.lt_or_le t 1 with h1 | h1
    · exact .inl h1
    · rcases Int.lt_or_le 999 t with h2 | h2
      · exact .inr h2
      · rw [inB, decide_eq_true h1, decide_eq_true h2] at ht; cases ht
  clear ht
  rcases ht0 with ht1 | ht1
  all_goals
    go_enter Tryd.func14, Tryd.ntmps14
    go_wp2_with fail
    refine (HA.out _).mono ?_
    rintro e w1 ⟨rfl, hb1⟩
    have hB := boxR hb1
    have x1 := (hBl.on hb1).cell
    clear hb1
    go_wp2_with fail
    go_ret
    exact ⟨rfl, hB⟩

set_option maxHeartbeats 2000000 in
theorem iReqRight_t10 (t h l : Int) (n f : ByteArray) (r c o : Int) (w : World) (ht : inB t 1 999 = false) :
    Calls Tryd.prog 14 #[reqV 10 t h l n f r c o] w fun e w' => e = .returned (.bool false) ∧ Below w.heap.size w w' := by
  have HA : Hid (∀ W : World, Calls Tryd.prog 17 #[reqV 10 t h l n f r c o] W fun e w' => e = .returned (.iface 84 (.agg #[])) ∧ Below W.heap.size W w') := fun W => askOf_10 t h l n f r c o W
  have hBl := Block.new w #[.int .i64 10, .int .i64 t, .int .i64 h, .int .i64 l, .string n, .string f, .int .i64 r, .int .i64 c, .int .i64 o] 30
  have ht0 : t < 1 ∨ 999 < t := by
    rcases Int.lt_or_le t 1 with h1 | h1
    · exact .inl h1
    · rcases Int.lt_or_le 999 t with h2 | h2
      · exact .inr h2
      · rw [inB, decide_eq_true h1, decide_eq_true h2] at ht; cases ht
  clear ht
  rcases ht0 with ht1 | ht1
  all_goals
    go_enter Tryd.func14, Tryd.ntmps14
    go_wp2_with fail
    refine (HA.out _).mono ?_
    rintro e w1 ⟨rfl, hb1⟩
    have hB := boxR hb1
    have x1 := (hBl.on hb1).cell
    clear hb1
    go_wp2_with fail
    go_ret
    exact ⟨rfl, hB⟩

end Go.Proofs.YtpncnkihfijmaaaDoor