/-
  impl.reqOf by kind: the walks. (By gen_reqi.py.)
-/
import Derived.Test.YtpncnkihfijmaaaDoorReqI
namespace Go.Proofs.YtpncnkihfijmaaaDoor
open Go.ChangeShapes Go.WideShapes Go.ChangeAt Go.RowKit Go.ChangeMaps
set_option maxRecDepth 10000
set_option linter.unusedSimpArgs false
set_option linter.unusedVariables false

set_option maxRecDepth 100000 in
set_option maxHeartbeats 4000000 in
theorem reqOf_1 (t : Int)  (w : World) : Calls Tryd.prog 30 #[.iface 70 (.agg #[]), .int .i64 t] w fun e w' => e = .returned (reqV 1 t 0 0 ⟨#[]⟩ ⟨#[]⟩ 0 0 0) ∧ Below w.heap.size w w' := by
  have q1 : ∀ W : World, (Instr.typeAssert (.iface 70 (.agg #[])) 40 70 true).run Tryd.prog W = .ok (.tuple #[.agg #[], .bool true]) W := fun W => by kernel_rfl
  go_enter Tryd.func30, Tryd.ntmps30
  go_wp2
  all_goals
    go_wp2
    refine bodyPost_ret (v := reqV 1 t 0 0 ⟨#[]⟩ ⟨#[]⟩ 0 0 0) (by simp [results, Tryd.results30, go_sem]) rfl ?_
    exact ⟨rfl, by go_grown⟩

set_option maxRecDepth 100000 in
set_option maxHeartbeats 4000000 in
theorem reqOf_2 (t : Int) (h : Int) (l : Int) (n : ByteArray) (w : World) : Calls Tryd.prog 30 #[.iface 72 (.agg #[.int .i64 h, .int .i64 l, .string n]), .int .i64 t] w fun e w' => e = .returned (reqV 2 t h l n ⟨#[]⟩ 0 0 0) ∧ Below w.heap.size w w' := by
  have q1 : ∀ W : World, (Instr.typeAssert (.iface 72 (.agg #[.int .i64 h, .int .i64 l, .string n])) 40 70 true).run Tryd.prog W = .ok (.tuple #[.agg #[], .bool false]) W := fun W => by kernel_rfl
  have q2 : ∀ W : World, (Instr.typeAssert (.iface 72 (.agg #[.int .i64 h, .int .i64 l, .string n])) 40 72 true).run Tryd.prog W = .ok (.tuple #[.agg #[.int .i64 h, .int .i64 l, .string n], .bool true]) W := fun W => by kernel_rfl
  go_enter Tryd.func30, Tryd.ntmps30
  go_wp2
  go_region
  all_goals
    go_wp2
    refine bodyPost_ret (v := reqV 2 t h l n ⟨#[]⟩ 0 0 0) (by simp [results, Tryd.results30, go_sem]) rfl ?_
    exact ⟨rfl, by go_grown⟩

set_option maxRecDepth 100000 in
set_option maxHeartbeats 4000000 in
theorem reqOf_3 (t : Int) (h : Int) (l : Int) (f : ByteArray) (r : Int) (c : Int) (w : World) : Calls Tryd.prog 30 #[.iface 74 (.agg #[.int .i64 h, .int .i64 l, .string f, .int .i64 r, .int .i64 c]), .int .i64 t] w fun e w' => e = .returned (reqV 3 t h l ⟨#[]⟩ f r c 0) ∧ Below w.heap.size w w' := by
  have q1 : ∀ W : World, (Instr.typeAssert (.iface 74 (.agg #[.int .i64 h, .int .i64 l, .string f, .int .i64 r, .int .i64 c])) 40 70 true).run Tryd.prog W = .ok (.tuple #[.agg #[], .bool false]) W := fun W => by kernel_rfl
  have q2 : ∀ W : World, (Instr.typeAssert (.iface 74 (.agg #[.int .i64 h, .int .i64 l, .string f, .int .i64 r, .int .i64 c])) 40 72 true).run Tryd.prog W = .ok (.tuple #[.agg #[.int .i64 0, .int .i64 0, .string ⟨#[]⟩], .bool false]) W := fun W => by kernel_rfl
  have q3 : ∀ W : World, (Instr.typeAssert (.iface 74 (.agg #[.int .i64 h, .int .i64 l, .string f, .int .i64 r, .int .i64 c])) 40 74 true).run Tryd.prog W = .ok (.tuple #[.agg #[.int .i64 h, .int .i64 l, .string f, .int .i64 r, .int .i64 c], .bool true]) W := fun W => by kernel_rfl
  go_enter Tryd.func30, Tryd.ntmps30
  go_wp2
  go_region
  all_goals
    go_wp2
    refine bodyPost_ret (v := reqV 3 t h l ⟨#[]⟩ f r c 0) (by simp [results, Tryd.results30, go_sem]) rfl ?_
    exact ⟨rfl, by go_grown⟩

set_option maxRecDepth 100000 in
set_option maxHeartbeats 4000000 in
theorem reqOf_4 (t : Int) (h : Int) (l : Int) (f : ByteArray) (r : Int) (c : Int) (w : World) : Calls Tryd.prog 30 #[.iface 75 (.agg #[.int .i64 h, .int .i64 l, .string f, .int .i64 r, .int .i64 c]), .int .i64 t] w fun e w' => e = .returned (reqV 4 t h l ⟨#[]⟩ f r c 0) ∧ Below w.heap.size w w' := by
  have q1 : ∀ W : World, (Instr.typeAssert (.iface 75 (.agg #[.int .i64 h, .int .i64 l, .string f, .int .i64 r, .int .i64 c])) 40 70 true).run Tryd.prog W = .ok (.tuple #[.agg #[], .bool false]) W := fun W => by kernel_rfl
  have q2 : ∀ W : World, (Instr.typeAssert (.iface 75 (.agg #[.int .i64 h, .int .i64 l, .string f, .int .i64 r, .int .i64 c])) 40 72 true).run Tryd.prog W = .ok (.tuple #[.agg #[.int .i64 0, .int .i64 0, .string ⟨#[]⟩], .bool false]) W := fun W => by kernel_rfl
  have q3 : ∀ W : World, (Instr.typeAssert (.iface 75 (.agg #[.int .i64 h, .int .i64 l, .string f, .int .i64 r, .int .i64 c])) 40 74 true).run Tryd.prog W = .ok (.tuple #[.agg #[.int .i64 0, .int .i64 0, .string ⟨#[]⟩, .int .i64 0, .int .i64 0], .bool false]) W := fun W => by kernel_rfl
  have q4 : ∀ W : World, (Instr.typeAssert (.iface 75 (.agg #[.int .i64 h, .int .i64 l, .string f, .int .i64 r, .int .i64 c])) 40 75 true).run Tryd.prog W = .ok (.tuple #[.agg #[.int .i64 h, .int .i64 l, .string f, .int .i64 r, .int .i64 c], .bool true]) W := fun W => by kernel_rfl
  go_enter Tryd.func30, Tryd.ntmps30
  go_wp2
  go_region
  all_goals
    go_wp2
    refine bodyPost_ret (v := reqV 4 t h l ⟨#[]⟩ f r c 0) (by simp [results, Tryd.results30, go_sem]) rfl ?_
    exact ⟨rfl, by go_grown⟩

set_option maxRecDepth 100000 in
set_option maxHeartbeats 4000000 in
theorem reqOf_5 (t : Int) (h : Int) (l : Int) (w : World) : Calls Tryd.prog 30 #[.iface 77 (.agg #[.int .i64 h, .int .i64 l]), .int .i64 t] w fun e w' => e = .returned (reqV 5 t h l ⟨#[]⟩ ⟨#[]⟩ 0 0 0) ∧ Below w.heap.size w w' := by
  have q1 : ∀ W : World, (Instr.typeAssert (.iface 77 (.agg #[.int .i64 h, .int .i64 l])) 40 70 true).run Tryd.prog W = .ok (.tuple #[.agg #[], .bool false]) W := fun W => by kernel_rfl
  have q2 : ∀ W : World, (Instr.typeAssert (.iface 77 (.agg #[.int .i64 h, .int .i64 l])) 40 72 true).run Tryd.prog W = .ok (.tuple #[.agg #[.int .i64 0, .int .i64 0, .string ⟨#[]⟩], .bool false]) W := fun W => by kernel_rfl
  have q3 : ∀ W : World, (Instr.typeAssert (.iface 77 (.agg #[.int .i64 h, .int .i64 l])) 40 74 true).run Tryd.prog W = .ok (.tuple #[.agg #[.int .i64 0, .int .i64 0, .string ⟨#[]⟩, .int .i64 0, .int .i64 0], .bool false]) W := fun W => by kernel_rfl
  have q4 : ∀ W : World, (Instr.typeAssert (.iface 77 (.agg #[.int .i64 h, .int .i64 l])) 40 75 true).run Tryd.prog W = .ok (.tuple #[.agg #[.int .i64 0, .int .i64 0, .string ⟨#[]⟩, .int .i64 0, .int .i64 0], .bool false]) W := fun W => by kernel_rfl
  have q5 : ∀ W : World, (Instr.typeAssert (.iface 77 (.agg #[.int .i64 h, .int .i64 l])) 40 77 true).run Tryd.prog W = .ok (.tuple #[.agg #[.int .i64 h, .int .i64 l], .bool true]) W := fun W => by kernel_rfl
  go_enter Tryd.func30, Tryd.ntmps30
  go_wp2
  go_region
  all_goals
    go_wp2
    refine bodyPost_ret (v := reqV 5 t h l ⟨#[]⟩ ⟨#[]⟩ 0 0 0) (by simp [results, Tryd.results30, go_sem]) rfl ?_
    exact ⟨rfl, by go_grown⟩

set_option maxRecDepth 100000 in
set_option maxHeartbeats 4000000 in
theorem reqOf_6 (t : Int) (h : Int) (l : Int) (o : Int) (w : World) : Calls Tryd.prog 30 #[.iface 79 (.agg #[.int .i64 h, .int .i64 l, .int .i64 o]), .int .i64 t] w fun e w' => e = .returned (reqV 6 t h l ⟨#[]⟩ ⟨#[]⟩ 0 0 o) ∧ Below w.heap.size w w' := by
  have q1 : ∀ W : World, (Instr.typeAssert (.iface 79 (.agg #[.int .i64 h, .int .i64 l, .int .i64 o])) 40 70 true).run Tryd.prog W = .ok (.tuple #[.agg #[], .bool false]) W := fun W => by kernel_rfl
  have q2 : ∀ W : World, (Instr.typeAssert (.iface 79 (.agg #[.int .i64 h, .int .i64 l, .int .i64 o])) 40 72 true).run Tryd.prog W = .ok (.tuple #[.agg #[.int .i64 0, .int .i64 0, .string ⟨#[]⟩], .bool false]) W := fun W => by kernel_rfl
  have q3 : ∀ W : World, (Instr.typeAssert (.iface 79 (.agg #[.int .i64 h, .int .i64 l, .int .i64 o])) 40 74 true).run Tryd.prog W = .ok (.tuple #[.agg #[.int .i64 0, .int .i64 0, .string ⟨#[]⟩, .int .i64 0, .int .i64 0], .bool false]) W := fun W => by kernel_rfl
  have q4 : ∀ W : World, (Instr.typeAssert (.iface 79 (.agg #[.int .i64 h, .int .i64 l, .int .i64 o])) 40 75 true).run Tryd.prog W = .ok (.tuple #[.agg #[.int .i64 0, .int .i64 0, .string ⟨#[]⟩, .int .i64 0, .int .i64 0], .bool false]) W := fun W => by kernel_rfl
  have q5 : ∀ W : World, (Instr.typeAssert (.iface 79 (.agg #[.int .i64 h, .int .i64 l, .int .i64 o])) 40 77 true).run Tryd.prog W = .ok (.tuple #[.agg #[.int .i64 0, .int .i64 0], .bool false]) W := fun W => by kernel_rfl
  have q6 : ∀ W : World, (Instr.typeAssert (.iface 79 (.agg #[.int .i64 h, .int .i64 l, .int .i64 o])) 40 79 true).run Tryd.prog W = .ok (.tuple #[.agg #[.int .i64 h, .int .i64 l, .int .i64 o], .bool true]) W := fun W => by kernel_rfl
  go_enter Tryd.func30, Tryd.ntmps30
  go_wp2
  go_region
  all_goals
    go_wp2
    refine bodyPost_ret (v := reqV 6 t h l ⟨#[]⟩ ⟨#[]⟩ 0 0 o) (by simp [results, Tryd.results30, go_sem]) rfl ?_
    exact ⟨rfl, by go_grown⟩

set_option maxRecDepth 100000 in
set_option maxHeartbeats 4000000 in
theorem reqOf_7 (t : Int) (h : Int) (l : Int) (w : World) : Calls Tryd.prog 30 #[.iface 80 (.agg #[.int .i64 h, .int .i64 l]), .int .i64 t] w fun e w' => e = .returned (reqV 7 t h l ⟨#[]⟩ ⟨#[]⟩ 0 0 0) ∧ Below w.heap.size w w' := by
  have q1 : ∀ W : World, (Instr.typeAssert (.iface 80 (.agg #[.int .i64 h, .int .i64 l])) 40 70 true).run Tryd.prog W = .ok (.tuple #[.agg #[], .bool false]) W := fun W => by kernel_rfl
  have q2 : ∀ W : World, (Instr.typeAssert (.iface 80 (.agg #[.int .i64 h, .int .i64 l])) 40 72 true).run Tryd.prog W = .ok (.tuple #[.agg #[.int .i64 0, .int .i64 0, .string ⟨#[]⟩], .bool false]) W := fun W => by kernel_rfl
  have q3 : ∀ W : World, (Instr.typeAssert (.iface 80 (.agg #[.int .i64 h, .int .i64 l])) 40 74 true).run Tryd.prog W = .ok (.tuple #[.agg #[.int .i64 0, .int .i64 0, .string ⟨#[]⟩, .int .i64 0, .int .i64 0], .bool false]) W := fun W => by kernel_rfl
  have q4 : ∀ W : World, (Instr.typeAssert (.iface 80 (.agg #[.int .i64 h, .int .i64 l])) 40 75 true).run Tryd.prog W = .ok (.tuple #[.agg #[.int .i64 0, .int .i64 0, .string ⟨#[]⟩, .int .i64 0, .int .i64 0], .bool false]) W := fun W => by kernel_rfl
  have q5 : ∀ W : World, (Instr.typeAssert (.iface 80 (.agg #[.int .i64 h, .int .i64 l])) 40 77 true).run Tryd.prog W = .ok (.tuple #[.agg #[.int .i64 0, .int .i64 0], .bool false]) W := fun W => by kernel_rfl
  have q6 : ∀ W : World, (Instr.typeAssert (.iface 80 (.agg #[.int .i64 h, .int .i64 l])) 40 79 true).run Tryd.prog W = .ok (.tuple #[.agg #[.int .i64 0, .int .i64 0, .int .i64 0], .bool false]) W := fun W => by kernel_rfl
  have q7 : ∀ W : World, (Instr.typeAssert (.iface 80 (.agg #[.int .i64 h, .int .i64 l])) 40 80 true).run Tryd.prog W = .ok (.tuple #[.agg #[.int .i64 h, .int .i64 l], .bool true]) W := fun W => by kernel_rfl
  go_enter Tryd.func30, Tryd.ntmps30
  go_wp2
  go_region
  all_goals
    go_wp2
    refine bodyPost_ret (v := reqV 7 t h l ⟨#[]⟩ ⟨#[]⟩ 0 0 0) (by simp [results, Tryd.results30, go_sem]) rfl ?_
    exact ⟨rfl, by go_grown⟩

set_option maxRecDepth 100000 in
set_option maxHeartbeats 4000000 in
theorem reqOf_8 (t : Int) (h : Int) (l : Int) (w : World) : Calls Tryd.prog 30 #[.iface 81 (.agg #[.int .i64 h, .int .i64 l]), .int .i64 t] w fun e w' => e = .returned (reqV 8 t h l ⟨#[]⟩ ⟨#[]⟩ 0 0 0) ∧ Below w.heap.size w w' := by
  have q1 : ∀ W : World, (Instr.typeAssert (.iface 81 (.agg #[.int .i64 h, .int .i64 l])) 40 70 true).run Tryd.prog W = .ok (.tuple #[.agg #[], .bool false]) W := fun W => by kernel_rfl
  have q2 : ∀ W : World, (Instr.typeAssert (.iface 81 (.agg #[.int .i64 h, .int .i64 l])) 40 72 true).run Tryd.prog W = .ok (.tuple #[.agg #[.int .i64 0, .int .i64 0, .string ⟨#[]⟩], .bool false]) W := fun W => by kernel_rfl
  have q3 : ∀ W : World, (Instr.typeAssert (.iface 81 (.agg #[.int .i64 h, .int .i64 l])) 40 74 true).run Tryd.prog W = .ok (.tuple #[.agg #[.int .i64 0, .int .i64 0, .string ⟨#[]⟩, .int .i64 0, .int .i64 0], .bool false]) W := fun W => by kernel_rfl
  have q4 : ∀ W : World, (Instr.typeAssert (.iface 81 (.agg #[.int .i64 h, .int .i64 l])) 40 75 true).run Tryd.prog W = .ok (.tuple #[.agg #[.int .i64 0, .int .i64 0, .string ⟨#[]⟩, .int .i64 0, .int .i64 0], .bool false]) W := fun W => by kernel_rfl
  have q5 : ∀ W : World, (Instr.typeAssert (.iface 81 (.agg #[.int .i64 h, .int .i64 l])) 40 77 true).run Tryd.prog W = .ok (.tuple #[.agg #[.int .i64 0, .int .i64 0], .bool false]) W := fun W => by kernel_rfl
  have q6 : ∀ W : World, (Instr.typeAssert (.iface 81 (.agg #[.int .i64 h, .int .i64 l])) 40 79 true).run Tryd.prog W = .ok (.tuple #[.agg #[.int .i64 0, .int .i64 0, .int .i64 0], .bool false]) W := fun W => by kernel_rfl
  have q7 : ∀ W : World, (Instr.typeAssert (.iface 81 (.agg #[.int .i64 h, .int .i64 l])) 40 80 true).run Tryd.prog W = .ok (.tuple #[.agg #[.int .i64 0, .int .i64 0], .bool false]) W := fun W => by kernel_rfl
  have q8 : ∀ W : World, (Instr.typeAssert (.iface 81 (.agg #[.int .i64 h, .int .i64 l])) 40 81 true).run Tryd.prog W = .ok (.tuple #[.agg #[.int .i64 h, .int .i64 l], .bool true]) W := fun W => by kernel_rfl
  go_enter Tryd.func30, Tryd.ntmps30
  go_wp2
  go_region
  all_goals
    go_wp2
    refine bodyPost_ret (v := reqV 8 t h l ⟨#[]⟩ ⟨#[]⟩ 0 0 0) (by simp [results, Tryd.results30, go_sem]) rfl ?_
    exact ⟨rfl, by go_grown⟩

set_option maxRecDepth 100000 in
set_option maxHeartbeats 4000000 in
theorem reqOf_9 (t : Int) (f : ByteArray) (w : World) : Calls Tryd.prog 30 #[.iface 83 (.agg #[.string f]), .int .i64 t] w fun e w' => e = .returned (reqV 9 t 0 0 ⟨#[]⟩ f 0 0 0) ∧ Below w.heap.size w w' := by
  have q1 : ∀ W : World, (Instr.typeAssert (.iface 83 (.agg #[.string f])) 40 70 true).run Tryd.prog W = .ok (.tuple #[.agg #[], .bool false]) W := fun W => by kernel_rfl
  have q2 : ∀ W : World, (Instr.typeAssert (.iface 83 (.agg #[.string f])) 40 72 true).run Tryd.prog W = .ok (.tuple #[.agg #[.int .i64 0, .int .i64 0, .string ⟨#[]⟩], .bool false]) W := fun W => by kernel_rfl
  have q3 : ∀ W : World, (Instr.typeAssert (.iface 83 (.agg #[.string f])) 40 74 true).run Tryd.prog W = .ok (.tuple #[.agg #[.int .i64 0, .int .i64 0, .string ⟨#[]⟩, .int .i64 0, .int .i64 0], .bool false]) W := fun W => by kernel_rfl
  have q4 : ∀ W : World, (Instr.typeAssert (.iface 83 (.agg #[.string f])) 40 75 true).run Tryd.prog W = .ok (.tuple #[.agg #[.int .i64 0, .int .i64 0, .string ⟨#[]⟩, .int .i64 0, .int .i64 0], .bool false]) W := fun W => by kernel_rfl
  have q5 : ∀ W : World, (Instr.typeAssert (.iface 83 (.agg #[.string f])) 40 77 true).run Tryd.prog W = .ok (.tuple #[.agg #[.int .i64 0, .int .i64 0], .bool false]) W := fun W => by kernel_rfl
  have q6 : ∀ W : World, (Instr.typeAssert (.iface 83 (.agg #[.string f])) 40 79 true).run Tryd.prog W = .ok (.tuple #[.agg #[.int .i64 0, .int .i64 0, .int .i64 0], .bool false]) W := fun W => by kernel_rfl
  have q7 : ∀ W : World, (Instr.typeAssert (.iface 83 (.agg #[.string f])) 40 80 true).run Tryd.prog W = .ok (.tuple #[.agg #[.int .i64 0, .int .i64 0], .bool false]) W := fun W => by kernel_rfl
  have q8 : ∀ W : World, (Instr.typeAssert (.iface 83 (.agg #[.string f])) 40 81 true).run Tryd.prog W = .ok (.tuple #[.agg #[.int .i64 0, .int .i64 0], .bool false]) W := fun W => by kernel_rfl
  have q9 : ∀ W : World, (Instr.typeAssert (.iface 83 (.agg #[.string f])) 40 83 true).run Tryd.prog W = .ok (.tuple #[.agg #[.string f], .bool true]) W := fun W => by kernel_rfl
  go_enter Tryd.func30, Tryd.ntmps30
  go_wp2
  go_region
  all_goals
    go_wp2
    refine bodyPost_ret (v := reqV 9 t 0 0 ⟨#[]⟩ f 0 0 0) (by simp [results, Tryd.results30, go_sem]) rfl ?_
    exact ⟨rfl, by go_grown⟩

set_option maxRecDepth 100000 in
set_option maxHeartbeats 4000000 in
theorem reqOf_10 (t : Int)  (w : World) : Calls Tryd.prog 30 #[.iface 84 (.agg #[]), .int .i64 t] w fun e w' => e = .returned (reqV 10 t 0 0 ⟨#[]⟩ ⟨#[]⟩ 0 0 0) ∧ Below w.heap.size w w' := by
  have q1 : ∀ W : World, (Instr.typeAssert (.iface 84 (.agg #[])) 40 70 true).run Tryd.prog W = .ok (.tuple #[.agg #[], .bool false]) W := fun W => by kernel_rfl
  have q2 : ∀ W : World, (Instr.typeAssert (.iface 84 (.agg #[])) 40 72 true).run Tryd.prog W = .ok (.tuple #[.agg #[.int .i64 0, .int .i64 0, .string ⟨#[]⟩], .bool false]) W := fun W => by kernel_rfl
  have q3 : ∀ W : World, (Instr.typeAssert (.iface 84 (.agg #[])) 40 74 true).run Tryd.prog W = .ok (.tuple #[.agg #[.int .i64 0, .int .i64 0, .string ⟨#[]⟩, .int .i64 0, .int .i64 0], .bool false]) W := fun W => by kernel_rfl
  have q4 : ∀ W : World, (Instr.typeAssert (.iface 84 (.agg #[])) 40 75 true).run Tryd.prog W = .ok (.tuple #[.agg #[.int .i64 0, .int .i64 0, .string ⟨#[]⟩, .int .i64 0, .int .i64 0], .bool false]) W := fun W => by kernel_rfl
  have q5 : ∀ W : World, (Instr.typeAssert (.iface 84 (.agg #[])) 40 77 true).run Tryd.prog W = .ok (.tuple #[.agg #[.int .i64 0, .int .i64 0], .bool false]) W := fun W => by kernel_rfl
  have q6 : ∀ W : World, (Instr.typeAssert (.iface 84 (.agg #[])) 40 79 true).run Tryd.prog W = .ok (.tuple #[.agg #[.int .i64 0, .int .i64 0, .int .i64 0], .bool false]) W := fun W => by kernel_rfl
  have q7 : ∀ W : World, (Instr.typeAssert (.iface 84 (.agg #[])) 40 80 true).run Tryd.prog W = .ok (.tuple #[.agg #[.int .i64 0, .int .i64 0], .bool false]) W := fun W => by kernel_rfl
  have q8 : ∀ W : World, (Instr.typeAssert (.iface 84 (.agg #[])) 40 81 true).run Tryd.prog W = .ok (.tuple #[.agg #[.int .i64 0, .int .i64 0], .bool false]) W := fun W => by kernel_rfl
  have q9 : ∀ W : World, (Instr.typeAssert (.iface 84 (.agg #[])) 40 83 true).run Tryd.prog W = .ok (.tuple #[.agg #[.string ⟨#[]⟩], .bool false]) W := fun W => by kernel_rfl
  have q10 : ∀ W : World, (Instr.typeAssert (.iface 84 (.agg #[])) 40 84 true).run Tryd.prog W = .ok (.tuple #[.agg #[], .bool true]) W := fun W => by kernel_rfl
  go_enter Tryd.func30, Tryd.ntmps30
  go_wp2
  all_goals
    go_wp2
    refine bodyPost_ret (v := reqV 10 t 0 0 ⟨#[]⟩ ⟨#[]⟩ 0 0 0) (by simp [results, Tryd.results30, go_sem]) rfl ?_
    exact ⟨rfl, by go_grown⟩

end Go.Proofs.YtpncnkihfijmaaaDoor