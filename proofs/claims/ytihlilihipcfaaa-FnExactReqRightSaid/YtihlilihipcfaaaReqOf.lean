/-
  impl.reqOf by kind: the walks. (By gen_reqi.py.)
-/
import Derived.Test.YtihlilihipcfaaaReqI
namespace Go.Proofs.Ytihlilihipcfaaa
open Go.ChangeShapes Go.WideShapes Go.ChangeAt Go.RowKit Go.ChangeMaps
set_option linter.unusedSimpArgs false
set_option linter.unusedVariables false

set_option maxRecDepth 100000 in
set_option maxHeartbeats 4000000 in
theorem reqOf_1 (t : Int)  (w : World) : Calls Try.prog 25 #[.iface 72 (.agg #[]), .int .i64 t] w fun e w' => e = .returned (reqV 1 t 0 0 ⟨#[]⟩ ⟨#[]⟩ 0 0 0) ∧ Below w.heap.size w w' := by
  have q1 : ∀ W : World, (Instr.typeAssert (.iface 72 (.agg #[])) 53 72 true).run Try.prog W = .ok (.tuple #[.agg #[], .bool true]) W := fun W => by kernel_rfl
  go_enter Try.func25, Try.ntmps25
  go_wp2
  all_goals
    go_wp2
    refine bodyPost_ret (v := reqV 1 t 0 0 ⟨#[]⟩ ⟨#[]⟩ 0 0 0) (by simp [results, Try.results25, go_sem]) rfl ?_
    exact ⟨rfl, by go_grown⟩

set_option maxRecDepth 100000 in
set_option maxHeartbeats 4000000 in
theorem reqOf_2 (t : Int) (h : Int) (l : Int) (n : ByteArray) (w : World) : Calls Try.prog 25 #[.iface 74 (.agg #[.int .i64 h, .int .i64 l, .string n]), .int .i64 t] w fun e w' => e = .returned (reqV 2 t h l n ⟨#[]⟩ 0 0 0) ∧ Below w.heap.size w w' := by
  have q1 : ∀ W : World, (Instr.typeAssert (.iface 74 (.agg #[.int .i64 h, .int .i64 l, .string n])) 53 72 true).run Try.prog W = .ok (.tuple #[.agg #[], .bool false]) W := fun W => by kernel_rfl
  have q2 : ∀ W : World, (Instr.typeAssert (.iface 74 (.agg #[.int .i64 h, .int .i64 l, .string n])) 53 74 true).run Try.prog W = .ok (.tuple #[.agg #[.int .i64 h, .int .i64 l, .string n], .bool true]) W := fun W => by kernel_rfl
  go_enter Try.func25, Try.ntmps25
  go_wp2
  go_region
  all_goals
    go_wp2
    refine bodyPost_ret (v := reqV 2 t h l n ⟨#[]⟩ 0 0 0) (by simp [results, Try.results25, go_sem]) rfl ?_
    exact ⟨rfl, by go_grown⟩

set_option maxRecDepth 100000 in
set_option maxHeartbeats 4000000 in
theorem reqOf_3 (t : Int) (h : Int) (l : Int) (f : ByteArray) (r : Int) (c : Int) (w : World) : Calls Try.prog 25 #[.iface 76 (.agg #[.int .i64 h, .int .i64 l, .string f, .int .i64 r, .int .i64 c]), .int .i64 t] w fun e w' => e = .returned (reqV 3 t h l ⟨#[]⟩ f r c 0) ∧ Below w.heap.size w w' := by
  have q1 : ∀ W : World, (Instr.typeAssert (.iface 76 (.agg #[.int .i64 h, .int .i64 l, .string f, .int .i64 r, .int .i64 c])) 53 72 true).run Try.prog W = .ok (.tuple #[.agg #[], .bool false]) W := fun W => by kernel_rfl
  have q2 : ∀ W : World, (Instr.typeAssert (.iface 76 (.agg #[.int .i64 h, .int .i64 l, .string f, .int .i64 r, .int .i64 c])) 53 74 true).run Try.prog W = .ok (.tuple #[.agg #[.int .i64 0, .int .i64 0, .string ⟨#[]⟩], .bool false]) W := fun W => by kernel_rfl
  have q3 : ∀ W : World, (Instr.typeAssert (.iface 76 (.agg #[.int .i64 h, .int .i64 l, .string f, .int .i64 r, .int .i64 c])) 53 76 true).run Try.prog W = .ok (.tuple #[.agg #[.int .i64 h, .int .i64 l, .string f, .int .i64 r, .int .i64 c], .bool true]) W := fun W => by kernel_rfl
  go_enter Try.func25, Try.ntmps25
  go_wp2
  go_region
  all_goals
    go_wp2
    refine bodyPost_ret (v := reqV 3 t h l ⟨#[]⟩ f r c 0) (by simp [results, Try.results25, go_sem]) rfl ?_
    exact ⟨rfl, by go_grown⟩

set_option maxRecDepth 100000 in
set_option maxHeartbeats 4000000 in
theorem reqOf_4 (t : Int) (h : Int) (l : Int) (f : ByteArray) (r : Int) (c : Int) (w : World) : Calls Try.prog 25 #[.iface 77 (.agg #[.int .i64 h, .int .i64 l, .string f, .int .i64 r, .int .i64 c]), .int .i64 t] w fun e w' => e = .returned (reqV 4 t h l ⟨#[]⟩ f r c 0) ∧ Below w.heap.size w w' := by
  have q1 : ∀ W : World, (Instr.typeAssert (.iface 77 (.agg #[.int .i64 h, .int .i64 l, .string f, .int .i64 r, .int .i64 c])) 53 72 true).run Try.prog W = .ok (.tuple #[.agg #[], .bool false]) W := fun W => by kernel_rfl
  have q2 : ∀ W : World, (Instr.typeAssert (.iface 77 (.agg #[.int .i64 h, .int .i64 l, .string f, .int .i64 r, .int .i64 c])) 53 74 true).run Try.prog W = .ok (.tuple #[.agg #[.int .i64 0, .int .i64 0, .string ⟨#[]⟩], .bool false]) W := fun W => by kernel_rfl
  have q3 : ∀ W : World, (Instr.typeAssert (.iface 77 (.agg #[.int .i64 h, .int .i64 l, .string f, .int .i64 r, .int .i64 c])) 53 76 true).run Try.prog W = .ok (.tuple #[.agg #[.int .i64 0, .int .i64 0, .string ⟨#[]⟩, .int .i64 0, .int .i64 0], .bool false]) W := fun W => by kernel_rfl
  have q4 : ∀ W : World, (Instr.typeAssert (.iface 77 (.agg #[.int .i64 h, .int .i64 l, .string f, .int .i64 r, .int .i64 c])) 53 77 true).run Try.prog W = .ok (.tuple #[.agg #[.int .i64 h, .int .i64 l, .string f, .int .i64 r, .int .i64 c], .bool true]) W := fun W => by kernel_rfl
  go_enter Try.func25, Try.ntmps25
  go_wp2
  go_region
  all_goals
    go_wp2
    refine bodyPost_ret (v := reqV 4 t h l ⟨#[]⟩ f r c 0) (by simp [results, Try.results25, go_sem]) rfl ?_
    exact ⟨rfl, by go_grown⟩

set_option maxRecDepth 100000 in
set_option maxHeartbeats 4000000 in
theorem reqOf_5 (t : Int) (h : Int) (l : Int) (w : World) : Calls Try.prog 25 #[.iface 79 (.agg #[.int .i64 h, .int .i64 l]), .int .i64 t] w fun e w' => e = .returned (reqV 5 t h l ⟨#[]⟩ ⟨#[]⟩ 0 0 0) ∧ Below w.heap.size w w' := by
  have q1 : ∀ W : World, (Instr.typeAssert (.iface 79 (.agg #[.int .i64 h, .int .i64 l])) 53 72 true).run Try.prog W = .ok (.tuple #[.agg #[], .bool false]) W := fun W => by kernel_rfl
  have q2 : ∀ W : World, (Instr.typeAssert (.iface 79 (.agg #[.int .i64 h, .int .i64 l])) 53 74 true).run Try.prog W = .ok (.tuple #[.agg #[.int .i64 0, .int .i64 0, .string ⟨#[]⟩], .bool false]) W := fun W => by kernel_rfl
  have q3 : ∀ W : World, (Instr.typeAssert (.iface 79 (.agg #[.int .i64 h, .int .i64 l])) 53 76 true).run Try.prog W = .ok (.tuple #[.agg #[.int .i64 0, .int .i64 0, .string ⟨#[]⟩, .int .i64 0, .int .i64 0], .bool false]) W := fun W => by kernel_rfl
  have q4 : ∀ W : World, (Instr.typeAssert (.iface 79 (.agg #[.int .i64 h, .int .i64 l])) 53 77 true).run Try.prog W = .ok (.tuple #[.agg #[.int .i64 0, .int .i64 0, .string ⟨#[]⟩, .int .i64 0, .int .i64 0], .bool false]) W := fun W => by kernel_rfl
  have q5 : ∀ W : World, (Instr.typeAssert (.iface 79 (.agg #[.int .i64 h, .int .i64 l])) 53 79 true).run Try.prog W = .ok (.tuple #[.agg #[.int .i64 h, .int .i64 l], .bool true]) W := fun W => by kernel_rfl
  go_enter Try.func25, Try.ntmps25
  go_wp2
  go_region
  all_goals
    go_wp2
    refine bodyPost_ret (v := reqV 5 t h l ⟨#[]⟩ ⟨#[]⟩ 0 0 0) (by simp [results, Try.results25, go_sem]) rfl ?_
    exact ⟨rfl, by go_grown⟩

set_option maxRecDepth 100000 in
set_option maxHeartbeats 4000000 in
theorem reqOf_6 (t : Int) (h : Int) (l : Int) (o : Int) (w : World) : Calls Try.prog 25 #[.iface 81 (.agg #[.int .i64 h, .int .i64 l, .int .i64 o]), .int .i64 t] w fun e w' => e = .returned (reqV 6 t h l ⟨#[]⟩ ⟨#[]⟩ 0 0 o) ∧ Below w.heap.size w w' := by
  have q1 : ∀ W : World, (Instr.typeAssert (.iface 81 (.agg #[.int .i64 h, .int .i64 l, .int .i64 o])) 53 72 true).run Try.prog W = .ok (.tuple #[.agg #[], .bool false]) W := fun W => by kernel_rfl
  have q2 : ∀ W : World, (Instr.typeAssert (.iface 81 (.agg #[.int .i64 h, .int .i64 l, .int .i64 o])) 53 74 true).run Try.prog W = .ok (.tuple #[.agg #[.int .i64 0, .int .i64 0, .string ⟨#[]⟩], .bool false]) W := fun W => by kernel_rfl
  have q3 : ∀ W : World, (Instr.typeAssert (.iface 81 (.agg #[.int .i64 h, .int .i64 l, .int .i64 o])) 53 76 true).run Try.prog W = .ok (.tuple #[.agg #[.int .i64 0, .int .i64 0, .string ⟨#[]⟩, .int .i64 0, .int .i64 0], .bool false]) W := fun W => by kernel_rfl
  have q4 : ∀ W : World, (Instr.typeAssert (.iface 81 (.agg #[.int .i64 h, .int .i64 l, .int .i64 o])) 53 77 true).run Try.prog W = .ok (.tuple #[.agg #[.int .i64 0, .int .i64 0, .string ⟨#[]⟩, .int .i64 0, .int .i64 0], .bool false]) W := fun W => by kernel_rfl
  have q5 : ∀ W : World, (Instr.typeAssert (.iface 81 (.agg #[.int .i64 h, .int .i64 l, .int .i64 o])) 53 79 true).run Try.prog W = .ok (.tuple #[.agg #[.int .i64 0, .int .i64 0], .bool false]) W := fun W => by kernel_rfl
  have q6 : ∀ W : World, (Instr.typeAssert (.iface 81 (.agg #[.int .i64 h, .int .i64 l, .int .i64 o])) 53 81 true).run Try.prog W = .ok (.tuple #[.agg #[.int .i64 h, .int .i64 l, .int .i64 o], .bool true]) W := fun W => by kernel_rfl
  go_enter Try.func25, Try.ntmps25
  go_wp2
  go_region
  all_goals
    go_wp2
    refine bodyPost_ret (v := reqV 6 t h l ⟨#[]⟩ ⟨#[]⟩ 0 0 o) (by simp [results, Try.results25, go_sem]) rfl ?_
    exact ⟨rfl, by go_grown⟩

set_option maxRecDepth 100000 in
set_option maxHeartbeats 4000000 in
theorem reqOf_7 (t : Int) (h : Int) (l : Int) (w : World) : Calls Try.prog 25 #[.iface 82 (.agg #[.int .i64 h, .int .i64 l]), .int .i64 t] w fun e w' => e = .returned (reqV 7 t h l ⟨#[]⟩ ⟨#[]⟩ 0 0 0) ∧ Below w.heap.size w w' := by
  have q1 : ∀ W : World, (Instr.typeAssert (.iface 82 (.agg #[.int .i64 h, .int .i64 l])) 53 72 true).run Try.prog W = .ok (.tuple #[.agg #[], .bool false]) W := fun W => by kernel_rfl
  have q2 : ∀ W : World, (Instr.typeAssert (.iface 82 (.agg #[.int .i64 h, .int .i64 l])) 53 74 true).run Try.prog W = .ok (.tuple #[.agg #[.int .i64 0, .int .i64 0, .string ⟨#[]⟩], .bool false]) W := fun W => by kernel_rfl
  have q3 : ∀ W : World, (Instr.typeAssert (.iface 82 (.agg #[.int .i64 h, .int .i64 l])) 53 76 true).run Try.prog W = .ok (.tuple #[.agg #[.int .i64 0, .int .i64 0, .string ⟨#[]⟩, .int .i64 0, .int .i64 0], .bool false]) W := fun W => by kernel_rfl
  have q4 : ∀ W : World, (Instr.typeAssert (.iface 82 (.agg #[.int .i64 h, .int .i64 l])) 53 77 true).run Try.prog W = .ok (.tuple #[.agg #[.int .i64 0, .int .i64 0, .string ⟨#[]⟩, .int .i64 0, .int .i64 0], .bool false]) W := fun W => by kernel_rfl
  have q5 : ∀ W : World, (Instr.typeAssert (.iface 82 (.agg #[.int .i64 h, .int .i64 l])) 53 79 true).run Try.prog W = .ok (.tuple #[.agg #[.int .i64 0, .int .i64 0], .bool false]) W := fun W => by kernel_rfl
  have q6 : ∀ W : World, (Instr.typeAssert (.iface 82 (.agg #[.int .i64 h, .int .i64 l])) 53 81 true).run Try.prog W = .ok (.tuple #[.agg #[.int .i64 0, .int .i64 0, .int .i64 0], .bool false]) W := fun W => by kernel_rfl
  have q7 : ∀ W : World, (Instr.typeAssert (.iface 82 (.agg #[.int .i64 h, .int .i64 l])) 53 82 true).run Try.prog W = .ok (.tuple #[.agg #[.int .i64 h, .int .i64 l], .bool true]) W := fun W => by kernel_rfl
  go_enter Try.func25, Try.ntmps25
  go_wp2
  go_region
  all_goals
    go_wp2
    refine bodyPost_ret (v := reqV 7 t h l ⟨#[]⟩ ⟨#[]⟩ 0 0 0) (by simp [results, Try.results25, go_sem]) rfl ?_
    exact ⟨rfl, by go_grown⟩

set_option maxRecDepth 100000 in
set_option maxHeartbeats 4000000 in
theorem reqOf_8 (t : Int) (h : Int) (l : Int) (w : World) : Calls Try.prog 25 #[.iface 83 (.agg #[.int .i64 h, .int .i64 l]), .int .i64 t] w fun e w' => e = .returned (reqV 8 t h l ⟨#[]⟩ ⟨#[]⟩ 0 0 0) ∧ Below w.heap.size w w' := by
  have q1 : ∀ W : World, (Instr.typeAssert (.iface 83 (.agg #[.int .i64 h, .int .i64 l])) 53 72 true).run Try.prog W = .ok (.tuple #[.agg #[], .bool false]) W := fun W => by kernel_rfl
  have q2 : ∀ W : World, (Instr.typeAssert (.iface 83 (.agg #[.int .i64 h, .int .i64 l])) 53 74 true).run Try.prog W = .ok (.tuple #[.agg #[.int .i64 0, .int .i64 0, .string ⟨#[]⟩], .bool false]) W := fun W => by kernel_rfl
  have q3 : ∀ W : World, (Instr.typeAssert (.iface 83 (.agg #[.int .i64 h, .int .i64 l])) 53 76 true).run Try.prog W = .ok (.tuple #[.agg #[.int .i64 0, .int .i64 0, .string ⟨#[]⟩, .int .i64 0, .int .i64 0], .bool false]) W := fun W => by kernel_rfl
  have q4 : ∀ W : World, (Instr.typeAssert (.iface 83 (.agg #[.int .i64 h, .int .i64 l])) 53 77 true).run Try.prog W = .ok (.tuple #[.agg #[.int .i64 0, .int .i64 0, .string ⟨#[]⟩, .int .i64 0, .int .i64 0], .bool false]) W := fun W => by kernel_rfl
  have q5 : ∀ W : World, (Instr.typeAssert (.iface 83 (.agg #[.int .i64 h, .int .i64 l])) 53 79 true).run Try.prog W = .ok (.tuple #[.agg #[.int .i64 0, .int .i64 0], .bool false]) W := fun W => by kernel_rfl
  have q6 : ∀ W : World, (Instr.typeAssert (.iface 83 (.agg #[.int .i64 h, .int .i64 l])) 53 81 true).run Try.prog W = .ok (.tuple #[.agg #[.int .i64 0, .int .i64 0, .int .i64 0], .bool false]) W := fun W => by kernel_rfl
  have q7 : ∀ W : World, (Instr.typeAssert (.iface 83 (.agg #[.int .i64 h, .int .i64 l])) 53 82 true).run Try.prog W = .ok (.tuple #[.agg #[.int .i64 0, .int .i64 0], .bool false]) W := fun W => by kernel_rfl
  have q8 : ∀ W : World, (Instr.typeAssert (.iface 83 (.agg #[.int .i64 h, .int .i64 l])) 53 83 true).run Try.prog W = .ok (.tuple #[.agg #[.int .i64 h, .int .i64 l], .bool true]) W := fun W => by kernel_rfl
  go_enter Try.func25, Try.ntmps25
  go_wp2
  go_region
  all_goals
    go_wp2
    refine bodyPost_ret (v := reqV 8 t h l ⟨#[]⟩ ⟨#[]⟩ 0 0 0) (by simp [results, Try.results25, go_sem]) rfl ?_
    exact ⟨rfl, by go_grown⟩

set_option maxRecDepth 100000 in
set_option maxHeartbeats 4000000 in
theorem reqOf_9 (t : Int) (f : ByteArray) (w : World) : Calls Try.prog 25 #[.iface 85 (.agg #[.string f]), .int .i64 t] w fun e w' => e = .returned (reqV 9 t 0 0 ⟨#[]⟩ f 0 0 0) ∧ Below w.heap.size w w' := by
  have q1 : ∀ W : World, (Instr.typeAssert (.iface 85 (.agg #[.string f])) 53 72 true).run Try.prog W = .ok (.tuple #[.agg #[], .bool false]) W := fun W => by kernel_rfl
  have q2 : ∀ W : World, (Instr.typeAssert (.iface 85 (.agg #[.string f])) 53 74 true).run Try.prog W = .ok (.tuple #[.agg #[.int .i64 0, .int .i64 0, .string ⟨#[]⟩], .bool false]) W := fun W => by kernel_rfl
  have q3 : ∀ W : World, (Instr.typeAssert (.iface 85 (.agg #[.string f])) 53 76 true).run Try.prog W = .ok (.tuple #[.agg #[.int .i64 0, .int .i64 0, .string ⟨#[]⟩, .int .i64 0, .int .i64 0], .bool false]) W := fun W => by kernel_rfl
  have q4 : ∀ W : World, (Instr.typeAssert (.iface 85 (.agg #[.string f])) 53 77 true).run Try.prog W = .ok (.tuple #[.agg #[.int .i64 0, .int .i64 0, .string ⟨#[]⟩, .int .i64 0, .int .i64 0], .bool false]) W := fun W => by kernel_rfl
  have q5 : ∀ W : World, (Instr.typeAssert (.iface 85 (.agg #[.string f])) 53 79 true).run Try.prog W = .ok (.tuple #[.agg #[.int .i64 0, .int .i64 0], .bool false]) W := fun W => by kernel_rfl
  have q6 : ∀ W : World, (Instr.typeAssert (.iface 85 (.agg #[.string f])) 53 81 true).run Try.prog W = .ok (.tuple #[.agg #[.int .i64 0, .int .i64 0, .int .i64 0], .bool false]) W := fun W => by kernel_rfl
  have q7 : ∀ W : World, (Instr.typeAssert (.iface 85 (.agg #[.string f])) 53 82 true).run Try.prog W = .ok (.tuple #[.agg #[.int .i64 0, .int .i64 0], .bool false]) W := fun W => by kernel_rfl
  have q8 : ∀ W : World, (Instr.typeAssert (.iface 85 (.agg #[.string f])) 53 83 true).run Try.prog W = .ok (.tuple #[.agg #[.int .i64 0, .int .i64 0], .bool false]) W := fun W => by kernel_rfl
  have q9 : ∀ W : World, (Instr.typeAssert (.iface 85 (.agg #[.string f])) 53 85 true).run Try.prog W = .ok (.tuple #[.agg #[.string f], .bool true]) W := fun W => by kernel_rfl
  go_enter Try.func25, Try.ntmps25
  go_wp2
  go_region
  all_goals
    go_wp2
    refine bodyPost_ret (v := reqV 9 t 0 0 ⟨#[]⟩ f 0 0 0) (by simp [results, Try.results25, go_sem]) rfl ?_
    exact ⟨rfl, by go_grown⟩

set_option maxRecDepth 100000 in
set_option maxHeartbeats 4000000 in
theorem reqOf_10 (t : Int)  (w : World) : Calls Try.prog 25 #[.iface 86 (.agg #[]), .int .i64 t] w fun e w' => e = .returned (reqV 10 t 0 0 ⟨#[]⟩ ⟨#[]⟩ 0 0 0) ∧ Below w.heap.size w w' := by
  have q1 : ∀ W : World, (Instr.typeAssert (.iface 86 (.agg #[])) 53 72 true).run Try.prog W = .ok (.tuple #[.agg #[], .bool false]) W := fun W => by kernel_rfl
  have q2 : ∀ W : World, (Instr.typeAssert (.iface 86 (.agg #[])) 53 74 true).run Try.prog W = .ok (.tuple #[.agg #[.int .i64 0, .int .i64 0, .string ⟨#[]⟩], .bool false]) W := fun W => by kernel_rfl
  have q3 : ∀ W : World, (Instr.typeAssert (.iface 86 (.agg #[])) 53 76 true).run Try.prog W = .ok (.tuple #[.agg #[.int .i64 0, .int .i64 0, .string ⟨#[]⟩, .int .i64 0, .int .i64 0], .bool false]) W := fun W => by kernel_rfl
  have q4 : ∀ W : World, (Instr.typeAssert (.iface 86 (.agg #[])) 53 77 true).run Try.prog W = .ok (.tuple #[.agg #[.int .i64 0, .int .i64 0, .string ⟨#[]⟩, .int .i64 0, .int .i64 0], .bool false]) W := fun W => by kernel_rfl
  have q5 : ∀ W : World, (Instr.typeAssert (.iface 86 (.agg #[])) 53 79 true).run Try.prog W = .ok (.tuple #[.agg #[.int .i64 0, .int .i64 0], .bool false]) W := fun W => by kernel_rfl
  have q6 : ∀ W : World, (Instr.typeAssert (.iface 86 (.agg #[])) 53 81 true).run Try.prog W = .ok (.tuple #[.agg #[.int .i64 0, .int .i64 0, .int .i64 0], .bool false]) W := fun W => by kernel_rfl
  have q7 : ∀ W : World, (Instr.typeAssert (.iface 86 (.agg #[])) 53 82 true).run Try.prog W = .ok (.tuple #[.agg #[.int .i64 0, .int .i64 0], .bool false]) W := fun W => by kernel_rfl
  have q8 : ∀ W : World, (Instr.typeAssert (.iface 86 (.agg #[])) 53 83 true).run Try.prog W = .ok (.tuple #[.agg #[.int .i64 0, .int .i64 0], .bool false]) W := fun W => by kernel_rfl
  have q9 : ∀ W : World, (Instr.typeAssert (.iface 86 (.agg #[])) 53 85 true).run Try.prog W = .ok (.tuple #[.agg #[.string ⟨#[]⟩], .bool false]) W := fun W => by kernel_rfl
  have q10 : ∀ W : World, (Instr.typeAssert (.iface 86 (.agg #[])) 53 86 true).run Try.prog W = .ok (.tuple #[.agg #[], .bool true]) W := fun W => by kernel_rfl
  go_enter Try.func25, Try.ntmps25
  go_wp2
  all_goals
    go_wp2
    refine bodyPost_ret (v := reqV 10 t 0 0 ⟨#[]⟩ ⟨#[]⟩ 0 0 0) (by simp [results, Try.results25, go_sem]) rfl ?_
    exact ⟨rfl, by go_grown⟩

end Go.Proofs.Ytihlilihipcfaaa