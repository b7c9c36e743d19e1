/-
  impl.numberOf: of digits that number, of any other text some number. strings.Split, Cut, CutPrefix as impl calls them; what they ask of the world is kept. pnrOf: its world between two steps. spec.l03Fill: its world between two steps; how great a booking comes. spec.SeatRead answers 'seatReadT'. spec.l03Fill reads what 'fillS' says.
-/
import Derived.Test.YtihlilihipcfaaaGreatDoorM8
import Derived.Test.YtihlilihipcfaaaGreatDoorM7
import Derived.Test.YtihlilihipcfaaaGreatDoorM1
import Derived.ChangeAgain
import Derived.WalkSmall
import Derived.Shelf.Vars
import Derived.Deep.RegionWith
import Derived.Test.YtihlilihipcfaaaGreatDoorM6
import Derived.Deep.RegionLaw
import Derived.Deep.DeepCutAuto
namespace Go.Proofs.YtihlilihipcfaaaGreatDoor
open Go.ChangeShapes Go.WideShapes Go.ChangeAt Go.RowKit Go.ChangeMaps
set_option maxRecDepth 10000
set_option linter.unusedSimpArgs false
set_option linter.unusedVariables false

theorem parse_dg {m : Int} (h0 : 0 ≤ m) (h1 : m < 10) : Lib.parseIntB 64 (dgT m).data.toList = .ok m := by
  have h : m = 0 ∨ m = 1 ∨ m = 2 ∨ m = 3 ∨ m = 4 ∨ m = 5 ∨ m = 6 ∨ m = 7 ∨ m = 8 ∨ m = 9 := by omega
  rw [dgT_data h0 h1]
  rcases h with rfl | rfl | rfl | rfl | rfl | rfl | rfl | rfl | rfl | rfl <;> rfl
def numF (s : ByteArray) : Int := match Lib.parseIntB 64 s.data.toList with
  | .ok v => v
  | .range => Lib.intSat 64 s.data.toList
  | _ => 0
theorem numF_ok (s : ByteArray) : NumOk s (numF s) := fun m h0 h1 he => by
  subst he
  rw [numF, parse_dg h0 h1]
theorem parse_num (s : ByteArray) (w : World) (hs : s.size ≤ 1048576) (hE : ErrVars w) :
    Calls Tryz.prog 118 #[.string s, .int .i64 10, .int .i64 64] w fun e w' => (∃ u, e = .returned (.tuple #[.int .i64 (numF s), u])) ∧ Below w.heap.size w w' := by
  obtain ⟨⟨u1, v1, h1⟩, u2, v2, h2⟩ := hE
  rcases hp : Lib.parseIntB 64 s.data.toList with v | _ | _
  · refine (parseInt_ok s hs v hp w).mono ?_
    rintro e w' ⟨rfl, hb⟩
    exact ⟨⟨_, by rw [numF, hp]⟩, hb⟩
  · refine (Any.strconv_ParseInt_10_at64_syntax_var Tryz.laysC174 s (by omega) hp u1 v1 w h1).mono ?_
    rintro e w' ⟨N, rfl, _, _, hb⟩
    exact ⟨⟨_, by rw [numF, hp]⟩, hb⟩
  · refine (Any.strconv_ParseInt_10_at64_range_var Tryz.laysC174 s (by omega) hp u2 v2 w h2).mono ?_
    rintro e w' ⟨N, rfl, _, _, hb⟩
    exact ⟨⟨_, by rw [numF, hp]⟩, hb⟩
set_option maxHeartbeats 1000000 in
theorem numberOf_any (s : ByteArray) (w : World) (hs : s.size ≤ 1048576) (hE : ErrVars w) : Calls Tryz.prog 92 #[.string s] w fun e w' => e = .returned (.int .i64 (numF s)) ∧ Below w.heap.size w w' := by
  have HP := Lib.hid (fun W hW => parse_num s W hs hW)
  have HEE := Lib.hid hE
  clear hE
  generalize numF s = n at *
  go_enter Tryz.func92, Tryz.ntmps92
  go_wp2_with fail
  refine (HP.out _ HEE.out).mono ?_
  rintro e w1 ⟨⟨u, rfl⟩, hb1⟩
  go_wp2_with fail
  go_ret
  exact ⟨rfl, hb1⟩
end Go.Proofs.YtihlilihipcfaaaGreatDoor
namespace Go.Proofs.YtihlilihipcfaaaGreatDoor
open Go.ChangeShapes Go.WideShapes Go.ChangeAt Go.RowKit Go.ChangeMaps
set_option maxRecDepth 10000
set_option linter.unusedSimpArgs false
set_option linter.unusedVariables false

theorem shaped_below {W W' : World} (h : W.ShapedOpen Tryz.prog) (hb : Below W.heap.size W W') : W'.ShapedOpen Tryz.prog :=
  h.keptBut (hb.frame fun _ => False) (fun _ hp => hp.elim)
/-- What the library's readers ask of the world. -/
def Env (W : World) : Prop := ErrVars W ∧ W.ShapedOpen Tryz.prog
theorem Env.on {W W' : World} (h : Env W) (hb : Below W.heap.size W W') : Env W' := ⟨h.1.below hb (Nat.le_refl _), shaped_below h.2 hb⟩

theorem maxLen_cell {W : World} (h : W.ShapedOpen Tryz.prog) : ∃ m, W.cell? ⟨2, 0, none⟩ = some (.int .i64 m) :=
  cell_of_shapedOpen_int (zero := #[.int .i64 0]) (t := 3) h (of_decide_eq_true (by kernel_rfl)) (by kernel_rfl) rfl (by kernel_rfl) (by kernel_rfl) Tryz.underlying3

def cutA (s : ByteArray) (c : UInt8) : ByteArray := ⟨(Lib.cut s.data.toList [c]).1.toArray⟩
def cutZ (s : ByteArray) (c : UInt8) : ByteArray := ⟨(Lib.cut s.data.toList [c]).2.1.toArray⟩
def cutF (s : ByteArray) (c : UInt8) : Bool := (Lib.cut s.data.toList [c]).2.2
theorem cutA_size (s : ByteArray) (c : UInt8) : (cutA s c).size ≤ s.size := by
  have h := (cut_len s.data.toList [c]).1
  rw [cutA, bsize]
  simpa using h
theorem cutZ_size (s : ByteArray) (c : UInt8) : (cutZ s c).size ≤ s.size := by
  have h := (cut_len s.data.toList [c]).2
  rw [cutZ, bsize]
  simpa using h
def CutGot (s : ByteArray) (c : UInt8) (w : World) (e : Ending) (w' : World) : Prop := e = .returned (.tuple #[.string (cutA s c), .string (cutZ s c), .bool (cutF s c)]) ∧ Below w.heap.size w w'
theorem cut_any (s : ByteArray) (c : UInt8) (w : World) (hs : s.size ≤ 1048576) (h : w.ShapedOpen Tryz.prog) : Calls Tryz.prog 102 #[.string s, .string ⟨#[c]⟩] w (CutGot s c w) := by
  obtain ⟨m, hm⟩ := maxLen_cell h
  refine (Tryz.strings_Cut s ⟨#[c]⟩ m w (by omega) hm).mono ?_
  rintro e w' ⟨rfl, n, rfl⟩
  exact ⟨rfl, below_drewN (Below.refl _ _) n⟩
def tailP (s : ByteArray) (c : UInt8) : ByteArray := ⟨(Lib.trimPrefix s.data.toList [c]).toArray⟩
def headP (s : ByteArray) (c : UInt8) : Bool := Lib.hasPrefix s.data.toList [c]
theorem tailP_size (s : ByteArray) (c : UInt8) : (tailP s c).size ≤ s.size := by
  rw [tailP, bsize, Lib.trimPrefix]
  split
  · simp
  · simp
theorem cutPrefix_any (s : ByteArray) (c : UInt8) (w : World) : Calls Tryz.prog 101 #[.string s, .string ⟨#[c]⟩] w fun e w' => e = .returned (.tuple #[.string (tailP s c), .bool (headP s c)]) ∧ w = w' :=
  (Tryz.strings_CutPrefix s ⟨#[c]⟩ w).mono fun e w' h => ⟨h.1, h.2.symm⟩
/-- What Split gives: a row of one's own, as many places as words. -/
def Splits (ws : List ByteArray) (w : World) (e : Ending) (w' : World) : Prop := (∃ A, e = .returned (.slice A ws.length ws.length) ∧ Lies w' w'.heap.size 1 A ws.length (strsC ws)) ∧ Below w.heap.size w w'
theorem split_any (s : ByteArray) (c : UInt8) (w : World) (hs : s.size ≤ 1048576) (h : w.ShapedOpen Tryz.prog) : Calls Tryz.prog 63 #[.string s, .string ⟨#[c]⟩] w (Splits (cutB c s) w) := by
  refine (Tryz.strings_Split_shaped s ⟨#[c]⟩ w h (by omega) (Nat.le_refl _)).mono ?_
  rintro e w' ⟨rfl, rfl⟩
  have hl := Lib.splitB_all ⟨#[c]⟩ (Nat.le_refl _) 0 _ s rfl
  rw [splitB_cut] at hl ⊢
  rw [← hl]
  refine ⟨⟨_, rfl, ?_⟩, (Below.refl _ _).alloc (Nat.le_refl _) _⟩
  refine ⟨by rw [strsC_length, Nat.mul_one], fun _ => ⟨w.heap.size, 0, rfl, by simp, fun j u hu => ?_⟩⟩
  rw [Nat.zero_add, cell_of_row _ w.heap.size j _ _ (0, 0) (heap_alloc_new w _)]
  simpa [strsC] using hu
theorem cutL_sizes (b : UInt8) : ∀ (l x : List UInt8), x ∈ cutL b l → x.length ≤ l.length
  | [], x, h => by simp [cutL] at h; simp [h]
  | c :: l, x, h => by
    rw [cutL] at h
    split at h
    · rcases List.mem_cons.1 h with rfl | h
      · simp
      · have := cutL_sizes b l x h; simp; omega
    · have ih := cutL_sizes b l
      cases hL : cutL b l with
      | nil => rw [hL] at h; simp at h; simp [h]
      | cons y r =>
        rw [hL] at h ih
        dsimp only at h
        rcases List.mem_cons.1 h with rfl | h
        · have := ih y List.mem_cons_self; simp; omega
        · have := ih x (List.mem_cons_of_mem _ h); simp; omega
theorem cutB_sizes (b : UInt8) (s x : ByteArray) (h : x ∈ cutB b s) : x.size ≤ s.size := by
  obtain ⟨l, hl, rfl⟩ := List.mem_map.1 h
  have := cutL_sizes b _ l hl
  rw [bsize]
  simpa using this
theorem cutL_many (b : UInt8) : ∀ l : List UInt8, (cutL b l).length ≤ l.length + 1
  | [] => by simp [cutL]
  | c :: l => by
    have ih := cutL_many b l
    rw [cutL]
    split
    · simp; omega
    · cases hL : cutL b l with
      | nil => simp
      | cons y r => rw [hL] at ih; simp at ih ⊢; omega
theorem cutB_many (b : UInt8) (s : ByteArray) : (cutB b s).length ≤ s.size + 1 := by
  have := cutL_many b s.data.toList
  simpa [cutB] using this
end Go.Proofs.YtihlilihipcfaaaGreatDoor
namespace Go.Proofs.YtihlilihipcfaaaGreatDoor
open Go.ChangeShapes Go.WideShapes Go.ChangeAt Go.RowKit Go.ChangeMaps
set_option maxRecDepth 10000
set_option linter.unusedSimpArgs false
set_option linter.unusedVariables false

/-- How great a booking has come. -/
def FitN (p : PD) (N : Nat) : Prop := p.names.length ≤ N ∧ p.holds.length ≤ N ∧ (∀ s ∈ p.names, s.size ≤ 8000) ∧ (∀ x ∈ p.holds, x.f.size ≤ 8000)
theorem FitN.none_ (h l o : Int) (b : Bool) (f : Int) : FitN ⟨h, l, o, [], [], b, f⟩ 0 := ⟨Nat.le_refl _, Nat.le_refl _, fun _ h => (by cases h), fun _ h => (by cases h)⟩
theorem stepI_name {p : PD} {w : ByteArray} (h : headP w 43 = true) : stepI p w = { p with names := p.names ++ [tailP w 43] } := by rw [stepI, if_pos (show Lib.hasPrefix w.data.toList [43] = true from h)]; rfl
theorem stepI_seat {p : PD} {w : ByteArray} (h : headP w 43 = false) : stepI p w = { p with holds := p.holds ++ [⟨cutA w 58, (seatReadT (cutZ w 58)).1, (seatReadT (cutZ w 58)).2.1⟩] } := by
  rw [stepI, if_neg (fun h' => by rw [show Lib.hasPrefix w.data.toList [43] = headP w 43 from rfl, h] at h'; cases h')]; rfl
theorem FitN.step {p : PD} {N : Nat} {w : ByteArray} (h : FitN p N) (hw : w.size ≤ 8000) : FitN (stepI p w) (N + 1) := by
  obtain ⟨h1, h2, h3, h4⟩ := h
  cases hc : headP w 43
  · rw [stepI_seat hc]
    refine ⟨by dsimp only; omega, by simp; omega, h3, fun x hx => ?_⟩
    rcases List.mem_append.1 hx with hx | hx
    · exact h4 x hx
    · obtain rfl := List.mem_singleton.1 hx
      exact Nat.le_trans (cutA_size w 58) hw
  · rw [stepI_name hc]
    refine ⟨by simp; omega, by dsimp only; omega, fun s hs => ?_, h4⟩
    rcases List.mem_append.1 hs with hs | hs
    · exact h3 s hs
    · obtain rfl := List.mem_singleton.1 hs
      exact Nat.le_trans (tailP_size w 43) hw
theorem FitN.fold {p : PD} {N : Nat} : ∀ (ws : List ByteArray), (∀ w ∈ ws, w.size ≤ 8000) → ∀ p N, FitN p N → FitN (ws.foldl stepI p) (N + ws.length)
  | [], _, p, N, h => h
  | w :: ws, hw, p, N, h => by
    have := FitN.fold (p := p) (N := N) ws (fun x hx => hw x (List.mem_cons_of_mem _ hx)) (stepI p w) (N + 1) (h.step (hw w List.mem_cons_self))
    rw [List.foldl_cons]
    simpa [Nat.add_assoc, Nat.add_comm 1] using this

abbrev zeroP : Array Value := #[.int .i64 0, .int .i64 0, .int .i64 0, .slice none 0 0, .slice none 0 0, .bool false, .int .i64 0]
/-- Its answer's place is empty yet; the booking stands in block g. -/
structure OSt (w : World) (g : Nat) (p : PD) (A1 : Option Addr) (c1 : Nat) (A2 : Option Addr) (c2 : Nat) (W : World) : Prop where
  st : PSt (w.heap.size + 1) g p A1 c1 A2 c2 W
  zero : Block W w.heap.size 40 zeroP
  below : Below w.heap.size w W
  gt : w.heap.size < g
section
variable {w W W' : World} {g : Nat} {p : PD} {A1 A2 : Option Addr} {c1 c2 : Nat}
theorem OSt.on (h : OSt w g p A1 c1 A2 c2 W) (hb : Below W.heap.size W W') : OSt w g p A1 c1 A2 c2 W' := ⟨h.st.on hb, h.zero.on hb, h.below.trans (hb.mono h.below.size), h.gt⟩
theorem OSt.drew (h : OSt w g p A1 c1 A2 c2 W) : OSt w g p A1 c1 A2 c2 W.drew := ⟨h.st.drew, h.zero, h.below.drew, h.gt⟩
theorem OSt.alloc (h : OSt w g p A1 c1 A2 c2 W) (o : Obj) : OSt w g p A1 c1 A2 c2 (W.alloc o) := h.on ((Below.refl _ W).alloc (Nat.le_refl _) o)
theorem OSt.home (h : OSt w g p A1 c1 A2 c2 W) (n : Int) : OSt w g { p with home := n } A1 c1 A2 c2 (W.setCell ⟨g, 0, none⟩ (.int .i64 n)) :=
  ⟨h.st.home n, h.zero.far (Nat.ne_of_lt h.gt) _, h.below.setCell (Nat.le_of_lt h.gt) _, h.gt⟩
theorem OSt.loc (h : OSt w g p A1 c1 A2 c2 W) (n : Int) : OSt w g { p with loc := n } A1 c1 A2 c2 (W.setCell ⟨g, 1, none⟩ (.int .i64 n)) :=
  ⟨h.st.loc n, h.zero.far (Nat.ne_of_lt h.gt) _, h.below.setCell (Nat.le_of_lt h.gt) _, h.gt⟩
theorem OSt.offer (h : OSt w g p A1 c1 A2 c2 W) (n : Int) : OSt w g { p with offer := n } A1 c1 A2 c2 (W.setCell ⟨g, 6, none⟩ (.int .i64 n)) :=
  ⟨h.st.offer n, h.zero.far (Nat.ne_of_lt h.gt) _, h.below.setCell (Nat.le_of_lt h.gt) _, h.gt⟩
theorem OSt.name (h : OSt w g p A1 c1 A2 c2 W) {A3 : Option Addr} {c3 : Nat} {s : ByteArray} (hg : W.grownBy W' (Value.slice A1 p.names.length c1).ownBlock) (hr : W'.ownsRow (w.heap.size + 1) 9 1 (.slice A3 (p.names.length + 1) c3) (p.names.length + 1) (strsC p.names ++ [.string s])) :
    Block W' g 40 (pdCs p A1 c1 A2 c2) ∧ OSt w g { p with names := p.names ++ [s] } A3 c3 A2 c2 (W'.setCell ⟨g, 3, none⟩ (.slice A3 (p.names.length + 1) c3)) := by
  have Y := h.st.name hg hr
  refine ⟨Y.1, ⟨Y.2, (h.zero.kept hg (fun e => own_not_block h.zero (by decide) h.st.ns e.symm)).far (Nat.ne_of_lt h.gt) _, ?_, h.gt⟩⟩
  exact (h.below.grown hg h.below.size (fun j e => by have := (h.st.ns.lt j e).1; omega)).setCell (Nat.le_of_lt h.gt) _
theorem OSt.hold (h : OSt w g p A1 c1 A2 c2 W) {A3 : Option Addr} {c3 : Nat} {x : HD} (hg : W.grownBy W' (Value.slice A2 p.holds.length c2).ownBlock) (hr : W'.ownsRow (w.heap.size + 1) 51 3 (.slice A3 (p.holds.length + 1) c3) (p.holds.length + 1) (holdsC p.holds ++ [.string x.f, .int .i64 x.r, .int .i64 x.c])) :
    Block W' g 40 (pdCs p A1 c1 A2 c2) ∧ OSt w g { p with holds := p.holds ++ [x] } A1 c1 A3 c3 (W'.setCell ⟨g, 4, none⟩ (.slice A3 (p.holds.length + 1) c3)) := by
  have Y := h.st.hold hg hr
  refine ⟨Y.1, ⟨Y.2, (h.zero.kept hg (fun e => own_not_block h.zero (by decide) h.st.hs e.symm)).far (Nat.ne_of_lt h.gt) _, ?_, h.gt⟩⟩
  exact (h.below.grown hg h.below.size (fun j e => by have := (h.st.hs.lt j e).1; omega)).setCell (Nat.le_of_lt h.gt) _
end
end Go.Proofs.YtihlilihipcfaaaGreatDoor
namespace Go.Proofs.YtihlilihipcfaaaGreatDoor
open Go.ChangeShapes Go.WideShapes Go.ChangeAt Go.RowKit Go.ChangeMaps
set_option maxRecDepth 10000
set_option linter.unusedSimpArgs false
set_option linter.unusedVariables false

structure FSt (g : Nat) (w : World) (p : PD) (A1 : Option Addr) (c1 : Nat) (A2 : Option Addr) (c2 : Nat) (W : World) : Prop where
  st : PSt (g + 1) g p A1 c1 A2 c2 W
  below : Below g w W
section
variable {w W W' : World} {g : Nat} {p : PD} {A1 A2 : Option Addr} {c1 c2 : Nat}
theorem FSt.le (h : FSt g w p A1 c1 A2 c2 W) : g + 1 ≤ W.heap.size := h.st.blk.lt
theorem FSt.on (h : FSt g w p A1 c1 A2 c2 W) (hb : Below W.heap.size W W') : FSt g w p A1 c1 A2 c2 W' := ⟨h.st.on hb, h.below.trans (hb.mono (Nat.le_of_lt h.st.blk.lt))⟩
theorem FSt.drew (h : FSt g w p A1 c1 A2 c2 W) : FSt g w p A1 c1 A2 c2 W.drew := ⟨h.st.drew, h.below.drew⟩
theorem FSt.alloc (h : FSt g w p A1 c1 A2 c2 W) (o : Obj) : FSt g w p A1 c1 A2 c2 (W.alloc o) := h.on ((Below.refl _ W).alloc (Nat.le_refl _) o)
theorem FSt.offer (h : FSt g w p A1 c1 A2 c2 W) (n : Int) : FSt g w { p with offer := n } A1 c1 A2 c2 (W.setCell ⟨g, 6, none⟩ (.int .i64 n)) :=
  ⟨h.st.offer n, h.below.setCell (Nat.le_refl g) _⟩
theorem FSt.name (h : FSt g w p A1 c1 A2 c2 W) {A3 : Option Addr} {c3 : Nat} {s : ByteArray} (hg : W.grownBy W' (Value.slice A1 p.names.length c1).ownBlock) (hr : W'.ownsRow (g + 1) 9 1 (.slice A3 (p.names.length + 1) c3) (p.names.length + 1) (strsC p.names ++ [.string s])) :
    Block W' g 40 (pdCs p A1 c1 A2 c2) ∧ FSt g w { p with names := p.names ++ [s] } A3 c3 A2 c2 (W'.setCell ⟨g, 3, none⟩ (.slice A3 (p.names.length + 1) c3)) := by
  have Y := h.st.name hg hr
  refine ⟨Y.1, ⟨Y.2, ?_⟩⟩
  exact (h.below.grown hg (Nat.le_of_lt h.st.blk.lt) (fun j e => by have := (h.st.ns.lt j e).1; omega)).setCell (Nat.le_refl g) _
theorem FSt.hold (h : FSt g w p A1 c1 A2 c2 W) {A3 : Option Addr} {c3 : Nat} {x : HD} (hg : W.grownBy W' (Value.slice A2 p.holds.length c2).ownBlock) (hr : W'.ownsRow (g + 1) 51 3 (.slice A3 (p.holds.length + 1) c3) (p.holds.length + 1) (holdsC p.holds ++ [.string x.f, .int .i64 x.r, .int .i64 x.c])) :
    Block W' g 40 (pdCs p A1 c1 A2 c2) ∧ FSt g w { p with holds := p.holds ++ [x] } A1 c1 A3 c3 (W'.setCell ⟨g, 4, none⟩ (.slice A3 (p.holds.length + 1) c3)) := by
  have Y := h.st.hold hg hr
  refine ⟨Y.1, ⟨Y.2, ?_⟩⟩
  exact (h.below.grown hg (Nat.le_of_lt h.st.blk.lt) (fun j e => by have := (h.st.hs.lt j e).1; omega)).setCell (Nat.le_refl g) _
end
def FillGot (g : Nat) (w : World) (p : PD) (W : World) : Prop := ∃ A1 c1 A2 c2, FSt g w p A1 c1 A2 c2 W

theorem step1_name {p : PD} {x : ByteArray} (h : x.data.toList.head? = some 43) : step1 p x = { p with names := p.names ++ [x.extract 1 x.size] } := by rw [step1, if_pos h]
theorem step1_seat {p : PD} {x a b : ByteArray} (h : ¬ x.data.toList.head? = some 43) (h2 : cutB 58 x = [a, b]) : step1 p x = { p with holds := p.holds ++ [⟨a, (seatReadT b).1, (seatReadT b).2.1⟩] } := by rw [step1, if_neg h, h2]
theorem step1_none {p : PD} {x : ByteArray} (h : ¬ x.data.toList.head? = some 43) (h2 : (cutB 58 x).length ≠ 2) : step1 p x = p := by
  rw [step1, if_neg h]
  match hc : cutB 58 x with
  | [a, b] => rw [hc] at h2; simp at h2
  | [] => rfl
  | [_] => rfl
  | _ :: _ :: _ :: _ => rfl
theorem FitN.mono {p : PD} {N M : Nat} (h : FitN p N) (hM : N ≤ M) : FitN p M := ⟨Nat.le_trans h.1 hM, Nat.le_trans h.2.1 hM, h.2.2.1, h.2.2.2⟩
theorem FitN.addName {p : PD} {N : Nat} {s : ByteArray} (h : FitN p N) (hs : s.size ≤ 8000) : FitN { p with names := p.names ++ [s] } (N + 1) := by
  obtain ⟨h1, h2, h3, h4⟩ := h
  refine ⟨by simp; omega, by dsimp only; omega, fun x hx => ?_, h4⟩
  rcases List.mem_append.1 hx with hx | hx
  · exact h3 x hx
  · obtain rfl := List.mem_singleton.1 hx
    exact hs
theorem FitN.addHold {p : PD} {N : Nat} {y : HD} (h : FitN p N) (hs : y.f.size ≤ 8000) : FitN { p with holds := p.holds ++ [y] } (N + 1) := by
  obtain ⟨h1, h2, h3, h4⟩ := h
  refine ⟨by dsimp only; omega, by simp; omega, h3, fun x hx => ?_⟩
  rcases List.mem_append.1 hx with hx | hx
  · exact h4 x hx
  · obtain rfl := List.mem_singleton.1 hx
    exact hs
theorem FitN.withOffer {p : PD} {N : Nat} (h : FitN p N) (n : Int) : FitN { p with offer := n } N := h
theorem drop_at {l : List ByteArray} {k : Nat} {x : ByteArray} (h : l[k]? = some x) : l.drop k = x :: l.drop (k + 1) := by
  obtain ⟨hk, rfl⟩ := List.getElem?_eq_some_iff.1 h
  exact List.drop_eq_getElem_cons hk
end Go.Proofs.YtihlilihipcfaaaGreatDoor
namespace Go.Proofs.YtihlilihipcfaaaGreatDoor
open Go.ChangeShapes Go.WideShapes Go.ChangeAt Go.RowKit Go.ChangeMaps
set_option maxRecDepth 10000
set_option linter.unusedSimpArgs false
set_option linter.unusedVariables false

theorem seatReadT_two {s : ByteArray} (hs : s.size < 2) : seatReadT s = (0, 0, 3) := by rw [seatReadT, if_neg (by omega), if_neg (by omega)]

set_option maxHeartbeats 1000000 in
theorem sSeatRead_short (s : ByteArray) (w : World) (hs : 8000 < s.size ∨ s.size < 2) (hm : s.size ≤ 1048576) : Calls Tryz.prog 89 #[.string s] w fun e w' => e = .returned (seatOutV (seatReadT s)) ∧ Below w.heap.size w w' := by
  rcases hs with hs | hs
  · rw [seatReadT_long hs]
    go_enter Tryz.func89, Tryz.ntmps89
    go_wp2
    refine bodyPost_ret (v := seatOutV (0, 0, 2)) (by simp [results, Tryz.results89, go_sem]) rfl ?_
    exact ⟨rfl, by go_grown⟩
  · rw [seatReadT_two hs]
    go_enter Tryz.func89, Tryz.ntmps89
    go_wp2
    refine bodyPost_ret (v := seatOutV (0, 0, 3)) (by simp [results, Tryz.results89, go_sem]) rfl ?_
    exact ⟨rfl, by go_grown⟩

set_option maxHeartbeats 2000000 in
theorem sSeatRead_long (s : ByteArray) (w : World) (h8 : s.size ≤ 8000) (h2 : 2 ≤ s.size) : Calls Tryz.prog 89 #[.string s] w fun e w' => e = .returned (seatOutV (seatReadT s)) ∧ Below w.heap.size w w' := by
  have hin : (s.extract 0 (s.size - 1)).size ≤ maxLen := by unfold maxLen; simp; omega
  have hr := numI_bound (s.extract 0 (s.size - 1)).data.toList
  have hlast : (s[s.size - 1].toNat : Int) = lastI s := lastI_at (by omega)
  have hl0 : 0 ≤ lastI s := by unfold lastI; omega
  have hl1 : lastI s < 256 := by rw [← hlast]; have := UInt8.toNat_lt s[s.size - 1]; omega
  have HN : Hid (∀ W : World, Calls Tryz.prog 39 #[.string (s.extract 0 (s.size - 1))] W fun e w' => e = .returned (.int .i64 (numI (s.extract 0 (s.size - 1)).data.toList)) ∧ W = w') := fun W => l02Num_any _ W hin
  have HT : Hid (∀ W : World, Calls Tryz.prog 116 #[seatV (numI (s.extract 0 (s.size - 1)).data.toList) (lastI s - 97)] W fun e w' => e = .returned (.string ⟨(seatTextL (numI (s.extract 0 (s.size - 1)).data.toList) (lastI s - 97)).toArray⟩) ∧ Below W.heap.size W w') := fun W => sSeatText_any _ _ W
  have hR : seatReadT s = if (⟨(seatTextL (numI (s.extract 0 (s.size - 1)).data.toList) (lastI s - 97)).toArray⟩ : ByteArray) = s then (numI (s.extract 0 (s.size - 1)).data.toList, lastI s - 97, 0) else (0, 0, 3) := by
    rw [seatReadT, if_neg (by omega)]
    by_cases hq : (⟨(seatTextL (numI (s.extract 0 (s.size - 1)).data.toList) (lastI s - 97)).toArray⟩ : ByteArray) = s
    · rw [if_pos ⟨h2, hq⟩, if_pos hq]
    · rw [if_neg (fun h => hq h.2), if_neg hq]
  generalize (⟨(seatTextL (numI (s.extract 0 (s.size - 1)).data.toList) (lastI s - 97)).toArray⟩ : ByteArray) = T at *
  generalize numI (s.extract 0 (s.size - 1)).data.toList = r at *
  generalize lastI s = L at *
  have hsl : ∀ W : World, (Instr.slice 9 (.string s) none (some (.int .i64 ((s.size : Int) - 1))) none).run Tryz.prog W = .ok (.string (s.extract 0 (s.size - 1))) W := fun W => by
    have h1 : (0 : Int) ≤ (s.size : Int) - 1 := by omega
    have h2 : (s.size : Int) - 1 ≤ (s.size : Int) := by omega
    have h3 : ((s.size : Int) - 1).toNat = s.size - 1 := by omega
    have h4 : s.size - 1 ≤ s.size := by omega
    simp [Instr.slice, Instr.sliceBounds, Instr.sliceBound, asIntOf, run_underlying Tryz.underlying9, h1, h2, h3, h4]
    intro hc
    omega
  have hix : ∀ W : World, (Instr.index 9 (.string s) (.int .i64 ((s.size : Int) - 1))).run Tryz.prog W = .ok (.int .u8 L) W := fun W => by
    rw [run_index_string _ _ _ _ _ Tryz.underlying9, dif_pos ⟨by omega, by omega⟩, ← hlast]
    have h3 : ((s.size : Int) - 1).toNat = s.size - 1 := by omega
    simp only [h3]
  have hw1 : IntKind.i64.wrap ((s.size : Int) - 1) = (s.size : Int) - 1 := IntWalk.i64_in _ (by omega)
  have hw2 : IntKind.i64.wrap (L - 97) = L - 97 := IntWalk.i64_in _ (by omega)
  have hw3 : IntKind.i64.wrap L = L := IntWalk.i64_in _ (by omega)
  have HL := Lib.hid hlast
  have HR := Lib.hid hR
  clear hlast hR hin hr
  by_cases hq : T = s
  all_goals
    first
      | (rw [if_pos hq] at HR; rw [HR.out]; subst hq)
      | (rw [if_neg hq] at HR; rw [HR.out]; have hne := str_ne hq; clear hq)
    clear HR
  all_goals
    go_enter Tryz.func89, Tryz.ntmps89
    go_wp2_with fail
    go_region_with (go_at_call 39; refine (HN.out _).mono ?_; rintro e w' ⟨rfl, rfl⟩)
    all_goals
      clear hsl hix
      go_wp2_with fail
      refine (HT.out _).mono ?_
      rintro e w2 ⟨rfl, hb2⟩
      have hz : w.heap.size + 1 < w2.heap.size := by have := hb2.size; simp at this; omega
      have hB : Below w.heap.size w w2 := (((Below.refl _ _).alloc (Nat.le_refl _) _ |>.alloc (by simp) _).drew).trans (hb2.mono (by simp; omega))
      have d0 := kc hb2 (b := w.heap.size) (i := 0) (v := .int .i64 0) (by go_simp) (by simp; omega)
      have d1 := kc hb2 (b := w.heap.size) (i := 1) (v := .int .i64 0) (by go_simp) (by simp; omega)
      have d2 := kc hb2 (b := w.heap.size) (i := 2) (v := .int .i64 0) (by go_simp) (by simp; omega)
      have f0' := kf hb2 (b := w.heap.size) (i := 0) (by go_simp) (by simp; omega)
      have f1' := kf hb2 (b := w.heap.size) (i := 1) (by go_simp) (by simp; omega)
      have f2' := kf hb2 (b := w.heap.size) (i := 2) (by go_simp) (by simp; omega)
      have e0 := kc hb2 (b := w.heap.size + 1) (i := 0) (v := .int .i64 r) (by go_simp) (by simp)
      have e1 := kc hb2 (b := w.heap.size + 1) (i := 1) (v := .int .i64 (L - 97)) (by go_simp) (by simp)
      clear hb2
      go_wp2_with fail
      first
        | (refine bodyPost_ret (v := seatOutV (r, L - 97, 0)) (by simp [results, Tryz.results89, go_sem, d0, d1, d2, f0', f1', f2']; done) rfl ?_
           exact ⟨rfl, ((hB.setCell (by simp) _).setCell (by simp) _).setCell (by simp) _⟩)
        | (refine bodyPost_ret (v := seatOutV (0, 0, 3)) (by simp [results, Tryz.results89, go_sem, d0, d1, d2, f0', f1', f2']; done) rfl ?_
           exact ⟨rfl, ((hB.setCell (by simp) _).setCell (by simp) _).setCell (by simp) _⟩)

theorem sSeatRead_any (s : ByteArray) (w : World) (hm : s.size ≤ 1048576) : Calls Tryz.prog 89 #[.string s] w fun e w' => e = .returned (seatOutV (seatReadT s)) ∧ Below w.heap.size w w' := by
  by_cases h : 8000 < s.size ∨ s.size < 2
  · exact sSeatRead_short s w h hm
  · exact sSeatRead_long s w (by omega) (by omega)
end Go.Proofs.YtihlilihipcfaaaGreatDoor
namespace Go.Proofs.YtihlilihipcfaaaGreatDoor
open Go.ChangeShapes Go.WideShapes Go.ChangeAt Go.RowKit Go.ChangeMaps
set_option maxRecDepth 10000
set_option linter.unusedSimpArgs false
set_option linter.unusedVariables false

/-- l01Split, told by cutB. -/
def SplGot (ws : List ByteArray) (w : World) (e : Ending) (w' : World) : Prop := (∃ A c, e = .returned (.slice A ws.length c) ∧ Lies w' w'.heap.size 1 A ws.length (strsC ws)) ∧ Below w.heap.size w w'
theorem sSplit_any (t : ByteArray) (b : UInt8) (w : World) (ht : t.size ≤ 1048576) : Calls Tryz.prog 36 #[.string t, .int .u8 (b.toNat : Int)] w (SplGot (cutB b t) w) := by
  refine (l01Split_any t (b.toNat : Int) w ht).mono ?_
  rw [splitT_cut]
  rintro e w' ⟨A, c, rfl, hr, hb⟩
  exact ⟨⟨A, c, rfl, Lies.own hr⟩, hb⟩

/-- How far the words have been read. -/
def FillRel (g : Nat) (w : World) (ws : List ByteArray) (p : PD) (i : Value) (W : World) : Prop :=
  ∃ (k : Nat) (p' : PD), k ≤ ws.length ∧ i = .int .i64 k ∧ Hid (fillS p ws = fillS p' (ws.drop k)) ∧ FitN p' k ∧ FillGot g w p' W
def FillEnd (g : Nat) (w : World) (p : PD) (N : Nat) (e : Ending) (W : World) : Prop := e = .returned (.tuple #[]) ∧ FitN p N ∧ FillGot g w p W

theorem head_43 {x : ByteArray} (h : 0 < x.size) : x.data.toList.head? = some 43 ↔ (x[0].toNat : Int) = 43 := by
  rw [head_at h]
  constructor
  · intro h1
    have := Option.some.inj h1
    rw [this]
    rfl
  · intro h1
    congr 1
    apply UInt8.toNat_inj.1
    have : (43 : UInt8).toNat = 43 := rfl
    omega
theorem head_none {x : ByteArray} (h : ¬ 0 < x.size) : ¬ x.data.toList.head? = some 43 := by
  have e : x.data.toList = [] := List.eq_nil_of_length_eq_zero (by have : x.data.toList.length = x.size := by simp
                                                                   omega)
  rw [e]
  simp

set_option maxHeartbeats 8000000 in
theorem l03Fill_any (ws : List ByteArray) (A : Option Addr) (cap g : Nat) (p : PD) (A1 : Option Addr) (c1 : Nat) (A2 : Option Addr) (c2 : Nat) (w : World) (hl : Lies w g 1 A ws.length (strsC ws)) (hs : ∀ x ∈ ws, x.size ≤ 8000) (hn : ws.length ≤ 100000) (hf : FitN p 0)
    (h : PSt (g + 1) g p A1 c1 A2 c2 w) : Calls Tryz.prog 61 #[.pointer (some ⟨g, 0, none⟩), .slice A ws.length cap] w (FillEnd g w (fillS p ws) ws.length) := by
  have HL := Lib.hid hl
  have HS := Lib.hid hs
  have HR0 : FillRel g w ws p (.int .i64 0) w := ⟨0, p, Nat.zero_le _, rfl, rfl, hf, A1, c1, A2, c2, h, Below.refl _ _⟩
  clear hl hs hf h
  go_enter Tryz.func61, Tryz.ntmps61
  go_wp2_with fail
  go_loopw [4] (fun i W => FillRel g w ws p i W) (fun i _ => ws.length - (intOf i).toNat)
  case atStart => exact HR0
  case round =>
    clear HR0
    obtain ⟨k, P, hk, rfl, HEq, hfit, a1, d1, a2, d2, T⟩ := hrel
    by_cases hlt : k < ws.length
    · obtain ⟨bx, ox, x, rfl, hbx, hx, cx⟩ := (HL.out.below T.below).str hlt
      have hxs := HS.out x (List.mem_of_getElem? hx)
      have hdrop := drop_at hx
      have HSp := Lib.hid (fun W => sSplit_any x 58 W (by omega))
      unfold SplGot at HSp
      have h58 : ((58 : UInt8).toNat : Int) = 58 := rfl
      rw [h58] at HSp
      clear h58
      have hxt : (x.toList == [116, 111]) = decide (x = twA) := by
        have e : twA.toList = [116, 111] := by rw [ByteArray.toList_eq]
        rw [← e]
        by_cases h : x = twA
        · subst h
          rw [decide_eq_true rfl]
          exact beq_iff_eq.2 rfl
        · rw [decide_eq_false h]
          exact str_ne h
      by_cases hto : x = twA ∧ k + 1 < ws.length
      · obtain ⟨rfl, hk1⟩ := hto
        obtain ⟨by', oy, y, he, hby, hy, cy⟩ := (HL.out.below T.below).str hk1
        obtain ⟨rfl, rfl⟩ : by' = bx ∧ oy = ox := by
          injection he with he
          injection he with h1 h2
          exact ⟨h1.symm, h2.symm⟩
        have hys := HS.out y (List.mem_of_getElem? hy)
        have HEq2 : Hid (fillS p ws = fillS { P with offer := numI y.data.toList } (ws.drop (k + 2))) := by
          rw [Hid, HEq.out, hdrop, drop_at hy, fillS_to]
        have HNum : Hid (∀ W, Calls Tryz.prog 39 #[.string y] W fun e w' => e = .returned (.int .i64 (numI y.data.toList)) ∧ W = w') := fun W => l02Num_any y W (by unfold maxLen; omega)
        rw [decide_eq_true rfl] at hxt
        generalize numI y.data.toList = ny at *
        have hw1 : IntKind.i64.wrap ((k : Int) + 1) = (k : Int) + 1 := IntWalk.i64_in _ (by omega)
        have hk1' : (k : Int) + 1 < (ws.length : Int) := by omega
        clear hdrop hy he hx HEq
        have hgw := T.le
        go_wp2_with fail
        refine (HSp.out _).mono ?_
        rintro e w2 ⟨⟨A5, c5, rfl, -⟩, hb2⟩
        have T2 := T.on hb2
        replace cx := kc hb2 cx (by omega)
        replace cy := kc hb2 cy (by omega)
        have q2 := T2.st.blk.cell
        have f2 := T2.st.blk.free
        clear T hb2
        go_wp2_with fail
        refine (HNum.out _).mono ?_
        rintro e w3 ⟨rfl, rfl⟩
        have HT := Lib.hid (T2.offer ny)
        clear T2
        go_wp2_with fail
        go_roundw
        case rel => exact ⟨k + 2, _, by omega, by go_num, HEq2, (hfit.withOffer ny).mono (by omega), a1, d1, a2, d2, HT.out⟩
        case measure => simp [intOf]; omega
      · have hto' : x ≠ twA ∨ ws.drop (k + 1) = [] := by
          by_cases h : x = twA
          · exact .inr (List.drop_eq_nil_of_le (by have : ¬ k + 1 < ws.length := fun h2 => hto ⟨h, h2⟩
                                                   omega))
          · exact .inl h
        have HEq2 : Hid (fillS p ws = fillS (step1 P x) (ws.drop (k + 1))) := by rw [Hid, HEq.out, hdrop, fillS_cons _ _ _ hto']
        have hgw := T.le
        have hg4 : (decide (x = twA)) = false ∨ (decide (x = twA) = true ∧ ¬ (k : Int) + 1 < (ws.length : Int)) := by
          by_cases h : x = twA
          · exact .inr ⟨decide_eq_true h, fun h2 => hto ⟨h, by omega⟩⟩
          · exact .inl (decide_eq_false h)
        have hw1 : IntKind.i64.wrap ((k : Int) + 1) = (k : Int) + 1 := IntWalk.i64_in _ (by omega)
        clear hdrop HEq hto hto' hx
        by_cases hp : x.data.toList.head? = some 43
        · have hx0 : 0 < x.size := by
            refine Classical.byContradiction fun h => ?_
            exact head_none h hp
          have hx43 : (x[0].toNat : Int) = 43 := (head_43 hx0).1 hp
          have hix : ∀ W : World, (Instr.index 9 (.string x) (.int .i64 0)).run Tryz.prog W = .ok (.int .u8 43) W := fun W => by
            rw [run_index_string _ _ _ _ _ Tryz.underlying9, dif_pos ⟨by omega, by omega⟩]
            have h3 : ((0 : Int)).toNat = 0 := rfl
            simp only [h3]
            rw [hx43]
          have hxI : (0 : Int) < (x.size : Int) := by omega
          have HSN : Hid (step1 P x = { P with names := P.names ++ [x.extract 1 x.size] }) := step1_name hp
          have hns : (x.extract 1 x.size).size ≤ 8000 := by simp; omega
          have hsl : ∀ W : World, (Instr.slice 9 (.string x) (some (.int .i64 1)) none none).run Tryz.prog W = .ok (.string (x.extract 1 x.size)) W := fun W => by
            have h1 : (1 : Int) ≤ (x.size : Int) := by omega
            simp [Instr.slice, Instr.sliceBounds, Instr.sliceBound, asIntOf, run_underlying Tryz.underlying9, h1]
          have HFI : Hid (FitN { P with names := P.names ++ [x.extract 1 x.size] } (k + 1)) := hfit.addName hns
          obtain ⟨f1', f2', -, -⟩ := hfit
          clear hp hx43
          generalize x.extract 1 x.size = nm at *
          generalize decide (x = twA) = bt at *
          have HRest := Lib.hid HEq2.out
          rw [HSN.out] at HRest
          clear HSN HEq2
          obtain ⟨ph, pl, po, ns, hs, pb, pf⟩ := P
          dsimp only at *
          rcases hg4 with rfl | ⟨rfl, hk1⟩
          all_goals
            go_wp2_with fail
            refine (HSp.out _).mono ?_
            rintro e w2 ⟨⟨A5, c5, rfl, -⟩, hb2⟩
            have T2 := T.on hb2
            have cx2 := kc hb2 cx (by omega)
            have hg2 := T2.le
            clear T hb2 cx
            have q1 := T2.st.blk.cell
            have r1 : ∀ o, (w2.alloc o).cell? ⟨g, 3, none⟩ = some (.slice a1 ns.length d1) := fun o => (T2.alloc o).st.blk.cell 3
            go_wp2_with fail
            go_region_law (first
              | (refine step_app (c := 1) (n := ns.length) rfl _ _ 37 rfl Tryz.underlying37 info_str rfl (by decide) (by decide) (T2.alloc (.cells #[.string nm] 9)).drew.st.ns (by simp [Act.eval, Act.put]) (lies_block (Block.new w2 #[.string nm] 9).drew rfl) (by simp [Act.eval, Act.put]) (fun u hu => strsC_one [nm] u (by simpa [strsC] using hu)) (by omega) (by simp; omega) ?_; intro A3 c3 w3 hown3 hg3; have Y := (T2.alloc (.cells #[.string nm] 9)).drew.name hg3 hown3; have q3 := Y.1.cell; have f3 := Y.1.free; have T3 := Y.2))
            all_goals
              go_wp2_with fail
              go_roundw
              case rel => exact ⟨k + 1, _, by omega, by go_num, HRest, HFI.out, A3, c3, a2, d2, T3⟩
              case measure => simp [intOf]; omega
        · have hbt : (0 < x.size ∧ ∃ c0 : Int, c0 ≠ 43 ∧ ∀ W : World, (Instr.index 9 (.string x) (.int .i64 0)).run Tryz.prog W = .ok (.int .u8 c0) W) ∨ ¬ 0 < x.size := by
            by_cases hx0 : 0 < x.size
            · refine .inl ⟨hx0, _, fun h => hp ((head_43 hx0).2 h), fun W => ?_⟩
              rw [run_index_string _ _ _ _ _ Tryz.underlying9, dif_pos ⟨by omega, by omega⟩]
              rfl
            · exact .inr hx0
          by_cases hc2 : (cutB 58 x).length = 2
          · obtain ⟨ha, hb, hcut⟩ : ∃ a b, cutB 58 x = [a, b] := by
              match h : cutB 58 x with
              | [a, b] => exact ⟨a, b, rfl⟩
              | [] => rw [h] at hc2; simp at hc2
              | [_] => rw [h] at hc2; simp at hc2
              | _ :: _ :: _ :: _ => rw [h] at hc2; simp at hc2
            have HSN : Hid (step1 P x = { P with holds := P.holds ++ [⟨ha, (seatReadT hb).1, (seatReadT hb).2.1⟩] }) := step1_seat hp hcut
            have hsa : ha.size ≤ 8000 := Nat.le_trans (cutB_sizes 58 x ha (by rw [hcut]; simp)) hxs
            have hsb : hb.size ≤ 8000 := Nat.le_trans (cutB_sizes 58 x hb (by rw [hcut]; simp)) hxs
            have HSR : Hid (∀ W, Calls Tryz.prog 89 #[.string hb] W fun e w' => e = .returned (seatOutV (seatReadT hb)) ∧ Below W.heap.size W w') := fun W => sSeatRead_any hb W (by omega)
            have HFI : Hid (FitN { P with holds := P.holds ++ [⟨ha, (seatReadT hb).1, (seatReadT hb).2.1⟩] } (k + 1)) := hfit.addHold hsa
            obtain ⟨f1', f2', -, -⟩ := hfit
            rw [hcut] at HSp
            have HRest := Lib.hid HEq2.out
            rw [HSN.out] at HRest
            clear HSN HEq2 hp hc2 hcut hsa hsb
            generalize seatReadT hb = sv at *
            obtain ⟨sr, sc, se⟩ := sv
            generalize decide (x = twA) = bt at *
            obtain ⟨ph, pl, po, ns, hs, pb, pf⟩ := P
            dsimp only [seatOutV] at *
            have hfld : ∀ W : World, (Instr.field 111 (.agg #[.int .i64 sr, .int .i64 sc, .int .i64 se]) 0).run Tryz.prog W = .ok (.agg #[.int .i64 sr, .int .i64 sc]) W := fun W => by
              first | rfl | simp [go_sem, Sem.run, Instr.field, Tryz.underlying111]
            have HG : Hid ((0 < x.size ∧ ∃ c0 : Int, c0 ≠ 43 ∧ ∀ W : World, (Instr.index 9 (.string x) (.int .i64 0)).run Tryz.prog W = .ok (.int .u8 c0) W) ∨ ¬ 0 < x.size) := hbt
            have HG4 := Lib.hid hg4
            clear hbt hg4
            go_wp2_with fail
            refine (HSp.out _).mono ?_
            rintro e w2 ⟨⟨A5, c5, rfl, hl5⟩, hb2⟩
            have T2 := T.on hb2
            have cx2 := kc hb2 cx (by omega)
            have hg2 := T2.le
            have HL5 := Lib.hid hl5
            have HT2 := Lib.hid T2
            clear T hb2 cx T2 hl5
            go_upto_region 4 with fail
            go_cut [17] from 18 to 29 (fun v W => v = .bool false ∧ W = w2)
            case first =>
              rcases HG4.out with h | ⟨h, hk1⟩
              · subst h
                go_wp2_with fail
                go_meet
                exact ⟨rfl, rfl⟩
              · subst h
                go_wp2_with fail
                go_meet
                exact ⟨by rw [decide_eq_false (Int.not_lt.2 hk1)], rfl⟩
            case rest =>
              obtain ⟨rfl, rfl⟩ := hcut
              clear hxt HG4 bt
              go_upto_region 7 with fail
              go_cut [41] from 42 to 55 (fun v W => v = .bool false ∧ W = wc)
              case first =>
                rcases HG.out with ⟨hx0, c0, hc0, hix⟩ | hx0
                · have hxI : (0 : Int) < (x.size : Int) := by omega
                  have hcb : ((c0 : Int) == 43) = false := by rw [beq_eq_false_iff_ne]; exact hc0
                  go_wp2_with fail
                  go_meet
                  exact ⟨rfl, rfl⟩
                · have hxI : ¬ (0 : Int) < (x.size : Int) := by omega
                  go_wp2_with fail
                  go_meet
                  exact ⟨rfl, rfl⟩
              case rest =>
                obtain ⟨rfl, rfl⟩ := hcut
                clear HG cx2
                have T2 := HT2.out
                obtain ⟨b5, o5, rfl, hb5, hc5⟩ := HL5.out.2 (by simp)
                have ca := hc5 0 _ rfl
                have cb := hc5 1 _ rfl
                rw [Nat.add_zero] at ca
                have q1 := T2.st.blk.cell
                clear HT2 HL5 hc5
                go_wp2_with fail
                have r1 := T2.st.blk.cell
                have hz2 : wc.heap.size = wc.drew.heap.size := rfl
                go_region_law (first
                  | (refine step_app (c := 1) (n := hs.length) rfl _ _ 38 rfl Tryz.underlying38 info_hold rfl (by decide) (by decide) (TS.st.hs.alloc (.cells #[.string ha, .int .i64 sr, .int .i64 sc] 51)) (by simp [Act.eval, Act.put]) (lies_block (Block.new ws2 #[.string ha, .int .i64 sr, .int .i64 sc] 51) rfl) (by simp [Act.eval, Act.put]) (fun u hu => holdsC_one [⟨ha, sr, sc⟩] u (by simpa [holdsC, holdC] using hu)) (by omega) (by have := TS.le; simp; omega) ?_; intro A3 c3 w3 hown3 hg3; have Y := (TS.alloc (.cells #[.string ha, .int .i64 sr, .int .i64 sc] 51)).hold (x := ⟨ha, sr, sc⟩) hg3 hown3; have q3 := Y.1.cell; have f3 := Y.1.free; have T3 := Y.2)
                  | ((fail_if_success (have hq := TS)); go_simp; go_wp2_with (go_at_call 89; refine (HSR.out _).mono ?_; rintro e ws2 ⟨rfl, hbs⟩; have TS := T2.drew.on hbs; have qs := TS.st.blk.cell; have cs := kc hbs (show wc.drew.cell? _ = _ from ca) hb5; have rs : ∀ o, (ws2.alloc o).cell? ⟨g, 4, none⟩ = some (.slice a2 hs.length d2) := fun o => (TS.alloc o).st.blk.cell 4)))
                all_goals
                  go_wp2_with fail
                  go_roundw
                  case rel => exact ⟨k + 1, _, by omega, by go_num, HRest, HFI.out, a1, d1, A3, c3, T3⟩
                  case measure => simp [intOf]; omega
          · have HSN : Hid (step1 P x = P) := step1_none hp hc2
            have HFI : Hid (FitN P (k + 1)) := hfit.mono (by omega)
            have HRest := Lib.hid HEq2.out
            rw [HSN.out] at HRest
            have hne2 : ¬ ((cutB 58 x).length : Int) = 2 := by omega
            clear HSN HEq2 hp hc2 hfit
            generalize decide (x = twA) = bt at *
            generalize cutB 58 x = m5 at *
            have HG : Hid ((0 < x.size ∧ ∃ c0 : Int, c0 ≠ 43 ∧ ∀ W : World, (Instr.index 9 (.string x) (.int .i64 0)).run Tryz.prog W = .ok (.int .u8 c0) W) ∨ ¬ 0 < x.size) := hbt
            have HG4 := Lib.hid hg4
            have hbeq : ((m5.length : Int) == 2) = false := by rw [beq_eq_false_iff_ne]; exact hne2
            clear hbt hg4 hne2
            go_wp2_with fail
            refine (HSp.out _).mono ?_
            rintro e w2 ⟨⟨A5, c5, rfl, hl5⟩, hb2⟩
            have T2 := T.on hb2
            have cx2 := kc hb2 cx (by omega)
            have hg2 := T2.le
            have HL5 := Lib.hid hl5
            have HT2 := Lib.hid T2
            clear T hb2 cx T2 hl5
            go_upto_region 4 with fail
            go_cut [17] from 18 to 29 (fun v W => v = .bool false ∧ W = w2)
            case first =>
              rcases HG4.out with h | ⟨h, hk1⟩
              · subst h
                go_wp2_with fail
                go_meet
                exact ⟨rfl, rfl⟩
              · subst h
                go_wp2_with fail
                go_meet
                exact ⟨by rw [decide_eq_false (Int.not_lt.2 hk1)], rfl⟩
            case rest =>
              obtain ⟨rfl, rfl⟩ := hcut
              clear hxt HG4 bt
              go_upto_region 7 with fail
              go_cut [41] from 42 to 55 (fun v W => v = .bool false ∧ W = wc)
              case first =>
                rcases HG.out with ⟨hx0, c0, hc0, hix⟩ | hx0
                · have hxI : (0 : Int) < (x.size : Int) := by omega
                  have hcb : ((c0 : Int) == 43) = false := by rw [beq_eq_false_iff_ne]; exact hc0
                  go_wp2_with fail
                  go_meet
                  exact ⟨rfl, rfl⟩
                · have hxI : ¬ (0 : Int) < (x.size : Int) := by omega
                  go_wp2_with fail
                  go_meet
                  exact ⟨rfl, rfl⟩
              case rest =>
                obtain ⟨rfl, rfl⟩ := hcut
                clear HG cx2
                have HT3 := HT2
                clear HT2 HL5
                go_wp2_with fail
                go_roundw
                case rel => exact ⟨k + 1, _, by omega, by go_num, HRest, HFI.out, a1, d1, a2, d2, HT3.out⟩
                case measure => simp [intOf]; omega
    · obtain rfl : k = ws.length := by omega
      have HD : Hid (fillS p ws = P) := by rw [Hid, HEq.out, List.drop_length]; rfl
      have HFin : Hid (FillGot g w P wr ∧ FitN P ws.length) := ⟨⟨a1, d1, a2, d2, T⟩, hfit⟩
      clear T hfit HEq
      go_wp2_with fail
      refine bodyPost_ret (v := .tuple #[]) (by simp [results, Tryz.results61, go_sem]) rfl ?_
      rw [HD.out]
      exact ⟨rfl, HFin.out.2, HFin.out.1⟩
end Go.Proofs.YtihlilihipcfaaaGreatDoor
