/-
  impl: the words of a request behind its token, by kind.
-/
import Derived.Test.YtpncnkihfijmaaaDoorReqT
import Derived.Test.YtpncnkihfijmaaaDoorStrsC
import Derived.Test.YtpncnkihfijmaaaDoorStepApp
import Derived.Test.YtpncnkihfijmaaaDoorReqI
namespace Go.Proofs.YtpncnkihfijmaaaDoor
open Go.ChangeShapes Go.WideShapes Go.ChangeAt Go.RowKit Go.ChangeMaps
set_option maxRecDepth 10000
set_option linter.unusedSimpArgs false
set_option linter.unusedVariables false

/-- A list of texts was made. -/
def WMade (w : World) (ps : List ByteArray) (e : Ending) (w' : World) : Prop :=
  ∃ A c, e = .returned (.slice A ps.length c) ∧ w'.ownsRow w.heap.size 9 1 (.slice A ps.length c) ps.length (strsC ps) ∧ Below w.heap.size w w'

set_option maxHeartbeats 400000 in
theorem words_none (w : World) : Calls Tryd.prog 94 #[.agg #[]] w (WMade w []) := by
  go_enter Tryd.func94, Tryd.ntmps94
  go_wp2
  go_ret
  exact ⟨none, 0, rfl, World.ownsRow_nil _ _ _ _, by go_grown⟩
set_option maxHeartbeats 400000 in
theorem words_map (f : ByteArray) (w : World) : Calls Tryd.prog 100 #[.agg #[.string f]] w (WMade w [f]) := by
  go_enter Tryd.func100, Tryd.ntmps100
  go_wp2
  go_ret
  have := World.ownsRow_lit (base := w.heap.size) (e := 9) (size := 1) (w.alloc (.cells #[.string f] 83)) #[.string f] 1 (by simp) (by decide) rfl
  rw [World.size_alloc] at this
  exact ⟨_, 1, rfl, this, by go_grown⟩
set_option maxHeartbeats 400000 in
theorem words_pnr (h l : Int) (h0 : 0 ≤ h) (h1 : h < 10) (l0 : 0 ≤ l) (l1 : l < 10) (w : World) : Calls Tryd.prog 82 #[.agg #[.int .i64 h, .int .i64 l]] w (WMade w [placeT h l]) := by
  have HP : Hid (∀ W : World, Calls Tryd.prog 85 #[.int .i64 h, .int .i64 l] W fun e w' => e = .returned (.string (placeT h l)) ∧ Below W.heap.size W w') := fun W => placeText_any h l h0 h1 l0 l1 W
  generalize placeT h l = pl at *
  go_enter Tryd.func82, Tryd.ntmps82
  go_wp2_with (first | (go_at_call 85; refine (HP.out _).mono ?_; rintro e w1 ⟨rfl, hb1⟩))
  have hB := boxR hb1
  go_ret
  refine ⟨_, 1, rfl, World.ownsRow_lit (base := w.heap.size) (e := 9) (size := 1) _ #[.string pl] 1 hB.size (by decide) rfl, hB.alloc hB.size _⟩

set_option maxHeartbeats 1000000 in
theorem words_name (h l : Int) (n : ByteArray) (h0 : 0 ≤ h) (h1 : h < 10) (l0 : 0 ≤ l) (l1 : l < 10) (w : World) : Calls Tryd.prog 96 #[.agg #[.int .i64 h, .int .i64 l, .string n]] w (WMade w [placeT h l, n]) := by
  have HP : Hid (∀ W : World, Below w.heap.size w W → Calls Tryd.prog 82 #[.agg #[.int .i64 h, .int .i64 l]] W fun e w' => (∃ A c, e = .returned (.slice A 1 c) ∧ w'.ownsRow w.heap.size 9 1 (.slice A 1 c) 1 (strsC [placeT h l])) ∧ Below W.heap.size W w' ∧ Below w.heap.size w w') := fun W hW =>
    (words_pnr h l h0 h1 l0 l1 W).mono fun e w' ⟨A, c, he, ho, hb⟩ => ⟨⟨A, c, he, ownsRow_base ho hW.size⟩, hb, hW.trans (hb.mono hW.size)⟩
  generalize placeT h l = pl at *
  have X0 := Block.new w #[.int .i64 h, .int .i64 l, .string n] 72
  go_enter Tryd.func96, Tryd.ntmps96
  go_wp2_with fail
  go_region_law (first
    | (refine step_app (c := 1) rfl _ _ 37 rfl Tryd.underlying37 info_str rfl (by decide) (by decide) hown2 (by simp [Act.eval, Act.put]) (lies_blockN (n := 1) Z2 rfl) (by simp [Act.eval, Act.put]) (fun u hu => strsC_one [n] u hu) (by omega) (by have := hB2.size; omega) ?_; intro A3 c3 w3 hown3 hg3; have hB3 := hB2.grown hg3 (by have := hB2.size; omega) (fun g e => by have := (hown2.lt _ e).1; omega))
    | ((fail_if_success (have hq := hown2)); go_simp; go_wp2_with (go_at_call 82; refine (HP.out _ (by go_grown)).mono ?_; rintro e w2 ⟨⟨A2, c2, rfl, hown2⟩, hb2, hB2⟩; (first | (have X2 := X0.drew.on hb2) | (have X2 := (X0.alloc (.cells #[.string n] 9)).drew.on hb2; have Z2 := (Block.new (w.alloc (.cells #[.int .i64 h, .int .i64 l, .string n] 72)) #[.string n] 9).drew.on hb2)); have q2 := X2.cell))
    | (refine step_app (c := 1) rfl _ _ 37 rfl Tryd.underlying37 info_str rfl (by decide) (by decide) (hown2.alloc (.cells #[.string n] 9)) (by simp [Act.eval, Act.put]) (lies_blockN (n := 1) (Block.new w2 #[.string n] 9) rfl) (by simp [Act.eval, Act.put]) (fun u hu => strsC_one [n] u hu) (by omega) (by have := hB2.size; simp; omega) ?_; intro A3 c3 w3 hown3 hg3; have hB3 := (hB2.alloc hB2.size _).grown hg3 (by have := hB2.size; simp; omega) (fun g e => by have := (hown2.lt _ e).1; omega)))
  all_goals
    go_wp2_with fail
    go_ret
    exact ⟨A3, c3, rfl, hown3, hB3⟩

set_option maxHeartbeats 1000000 in
theorem words_offer (h l o : Int) (h0 : 0 ≤ h) (h1 : h < 10) (l0 : 0 ≤ l) (l1 : l < 10) (o0 : 0 ≤ o) (o1 : o < 10) (w : World) : Calls Tryd.prog 98 #[.agg #[.int .i64 h, .int .i64 l, .int .i64 o]] w (WMade w [placeT h l, dgT o]) := by
  have HP : Hid (∀ W : World, Below w.heap.size w W → Calls Tryd.prog 82 #[.agg #[.int .i64 h, .int .i64 l]] W fun e w' => (∃ A c, e = .returned (.slice A 1 c) ∧ w'.ownsRow w.heap.size 9 1 (.slice A 1 c) 1 (strsC [placeT h l])) ∧ Below W.heap.size W w' ∧ Below w.heap.size w w') := fun W hW =>
    (words_pnr h l h0 h1 l0 l1 W).mono fun e w' ⟨A, c, he, ho, hb⟩ => ⟨⟨A, c, he, ownsRow_base ho hW.size⟩, hb, hW.trans (hb.mono hW.size)⟩
  have HD : Hid (∀ W : World, Calls Tryd.prog 15 #[.int .i64 o] W fun e w' => e = .returned (.string (dgT o)) ∧ W = w') := fun W => digits_any o o0 o1 W
  generalize placeT h l = pl at *
  generalize dgT o = n at *
  have X0 := Block.new w #[.int .i64 h, .int .i64 l, .int .i64 o] 79
  go_enter Tryd.func98, Tryd.ntmps98
  go_wp2_with fail
  go_region_law (first
    | (refine step_app (c := 1) rfl _ _ 37 rfl Tryd.underlying37 info_str rfl (by decide) (by decide) hown2 (by simp [Act.eval, Act.put]) (lies_blockN (n := 1) Z2 rfl) (by simp [Act.eval, Act.put]) (fun u hu => strsC_one [n] u hu) (by omega) (by have := hB2.size; omega) ?_; intro A3 c3 w3 hown3 hg3; have hB3 := hB2.grown hg3 (by have := hB2.size; omega) (fun g e => by have := (hown2.lt _ e).1; omega))
    | ((fail_if_success (have hq := hown2)); go_simp; go_wp2_with (go_at_call 82; refine (HP.out _ (by go_grown)).mono ?_; rintro e w2 ⟨⟨A2, c2, rfl, hown2⟩, hb2, hB2⟩; (first | (have X2 := X0.drew.on hb2) | (have X2 := (X0.alloc (.cells #[.string n] 9)).drew.on hb2; have Z2 := (Block.new (w.alloc (.cells #[.int .i64 h, .int .i64 l, .int .i64 o] 79)) #[.string n] 9).drew.on hb2)); have q2 := X2.cell))
    | ((fail_if_success (have hq := hdone)); go_simp; go_wp2_with (go_at_call 15; refine (HD.out _).mono ?_; rintro e w' ⟨rfl, rfl⟩; have hdone := trivial))
    | (refine step_app (c := 1) rfl _ _ 37 rfl Tryd.underlying37 info_str rfl (by decide) (by decide) (hown2.alloc (.cells #[.string n] 9)) (by simp [Act.eval, Act.put]) (lies_blockN (n := 1) (Block.new w2 #[.string n] 9) rfl) (by simp [Act.eval, Act.put]) (fun u hu => strsC_one [n] u hu) (by omega) (by have := hB2.size; simp; omega) ?_; intro A3 c3 w3 hown3 hg3; have hB3 := (hB2.alloc hB2.size _).grown hg3 (by have := hB2.size; simp; omega) (fun g e => by have := (hown2.lt _ e).1; omega)))
  all_goals
    go_wp2_with fail
    go_ret
    exact ⟨A3, c3, rfl, hown3, hB3⟩

set_option maxHeartbeats 2000000 in
theorem words_seat (h l : Int) (f : ByteArray) (r c : Int) (h0 : 0 ≤ h) (h1 : h < 10) (l0 : 0 ≤ l) (l1 : l < 10) (w : World) : Calls Tryd.prog 87 #[.agg #[.int .i64 h, .int .i64 l, .string f, .int .i64 r, .int .i64 c]] w (WMade w [placeT h l, f, seatT r c]) := by
  have HP : Hid (∀ W : World, Below w.heap.size w W → Calls Tryd.prog 82 #[.agg #[.int .i64 h, .int .i64 l]] W fun e w' => (∃ A c, e = .returned (.slice A 1 c) ∧ w'.ownsRow w.heap.size 9 1 (.slice A 1 c) 1 (strsC [placeT h l])) ∧ Below W.heap.size W w' ∧ Below w.heap.size w w') := fun W hW =>
    (words_pnr h l h0 h1 l0 l1 W).mono fun e w' ⟨A, c, he, ho, hb⟩ => ⟨⟨A, c, he, ownsRow_base ho hW.size⟩, hb, hW.trans (hb.mono hW.size)⟩
  have HS : Hid (∀ W : World, Below w.heap.size w W → Calls Tryd.prog 90 #[seatV r c] W fun e w' => e = .returned (.string (seatT r c)) ∧ Below W.heap.size W w' ∧ Below w.heap.size w w') := fun W hW =>
    (iSeatText_any r c W).mono fun e w' ⟨he, hb⟩ => ⟨he, hb, hW.trans (hb.mono hW.size)⟩
  generalize placeT h l = pl at *
  generalize seatT r c = st at *
  have X0 := Block.new w #[.int .i64 h, .int .i64 l, .string f, .int .i64 r, .int .i64 c] 66
  go_enter Tryd.func87, Tryd.ntmps87
  go_wp2_with fail
  go_region_law (first
    | (refine step_app (c := 2) rfl _ _ 37 rfl Tryd.underlying37 info_str rfl (by decide) (by decide) hown2 (by simp [Act.eval, Act.put]) (lies_blockN (n := 2) Z2 rfl) (by simp [Act.eval, Act.put]) (fun u hu => strsC_one [f, st] u hu) (by omega) (by have := hB2.size; omega) ?_; intro A3 c3 w3 hown3 hg3; have hB3 := hB2.grown hg3 (by have := hB2.size; omega) (fun g e => by have := (hown2.lt _ e).1; omega))
    | ((fail_if_success (have hq := hown2)); go_simp; go_wp2_with (go_at_call 82; refine (HP.out _ (by first | exact hBS | exact hBS.alloc hBS.size _ | go_grown)).mono ?_; rintro e w2 ⟨⟨A2, c2, rfl, hown2⟩, hb2, hB2⟩; (first | (have Z2 := (Block.new wS #[.string f, .string st] 9).on hb2; have X2 := (X2.alloc _).on hb2) | (have X2 := X2.on hb2) | (have X2 := X0.drew.on hb2)); have q2 := X2.cell))
    | ((fail_if_success (have hq := hBS)); go_simp; go_wp2_with (go_at_call 90; refine (HS.out _ (by first | exact hB2 | go_grown)).mono ?_; rintro e wS ⟨rfl, hbS, hBS⟩; (first | (have hown2 := ownsRow_below hown2 hbS; have hB2 := hBS; have X2 := X2.on hbS) | (have X2 := X0.drew.on hbS)); have q2 := X2.cell))
    | (refine step_app (c := 2) rfl _ _ 37 rfl Tryd.underlying37 info_str rfl (by decide) (by decide) (hown2.alloc (.cells #[.string f, .string st] 9)) (by simp [Act.eval, Act.put]) (lies_blockN (n := 2) (Block.new _ #[.string f, .string st] 9) rfl) (by simp [Act.eval, Act.put]) (fun u hu => strsC_one [f, st] u hu) (by omega) (by have := hB2.size; simp; omega) ?_; intro A3 c3 w3 hown3 hg3; have hB3 := (hB2.alloc hB2.size _).grown hg3 (by have := hB2.size; simp; omega) (fun g e => by have := (hown2.lt _ e).1; omega)))
  all_goals
    go_wp2_with fail
    go_ret
    exact ⟨A3, c3, rfl, hown3, hB3⟩
end Go.Proofs.YtpncnkihfijmaaaDoor
