/-
  impl.joined: the texts of a list, one behind the other. The parts of a booking's text, in a row that grows, in a box. spec.SeatText writes out a seat. strconv.ParseInt(s, 10, 64): a number, or an error; the library's two sentinels as the row lists them. impl.tooLong. colOf, seatOf: a seat out of its text. The laws' own equality of answers that bear a seat. Numbers in digits, read: plain mathematics.
-/
import Derived.Test.YtihlilihipcfaaaGreatDoorM4
import Derived.Test.YtihlilihipcfaaaGreatDoorM6
import Derived.Test.YtihlilihipcfaaaGreatDoorM2
import Derived.Maps.OwnIn
import Derived.Lib.BufferWrite
import Derived.Test.YtihlilihipcfaaaGreatDoorM5
import Derived.Test.YtihlilihipcfaaaGreatDoorM1
import Derived.Lib.SmallJoins
import Derived.Stop.LaidErr
import Derived.LaidMore
import Derived.Shelf.Strconv.ErrVarParseInt
import Derived.Lib.ItoaNum
namespace Go.Proofs.YtihlilihipcfaaaGreatDoor
open Go.ChangeShapes Go.WideShapes Go.ChangeAt Go.RowKit Go.ChangeMaps
set_option maxRecDepth 10000
set_option linter.unusedSimpArgs false
set_option linter.unusedVariables false

def catTo (xs : List ByteArray) (k : Nat) : List UInt8 := (xs.take k).flatMap fun s => s.data.toList
theorem catTo_succ (xs : List ByteArray) (k : Nat) (h : k < xs.length) : catTo xs (k + 1) = catTo xs k ++ xs[k].data.toList := by
  unfold catTo
  rw [List.take_succ_eq_append_getElem h, List.flatMap_append]
  simp only [List.flatMap_cons, List.flatMap_nil, List.append_nil]
theorem catTo_le (xs : List ByteArray) (k : Nat) : (catTo xs k).length ≤ (catTo xs xs.length).length := by
  rcases Nat.lt_or_ge k xs.length with h | h
  · have e : catTo xs xs.length = catTo xs k ++ (xs.drop k).flatMap fun s => s.data.toList := by
      unfold catTo
      rw [List.take_length, ← List.flatMap_append, List.take_append_drop]
    rw [e]; simp
  · unfold catTo
    rw [List.take_of_length_le h, List.take_length]
    exact Nat.le_refl _
theorem catTo_step (xs : List ByteArray) (k : Nat) (h : k < xs.length) : (catTo xs (k + 1)).length = (catTo xs k).length + xs[k].size := by
  rw [catTo_succ xs k h]; simp
theorem splice_cat (xs : List ByteArray) (k n : Nat) (h : k < xs.length) (hn : (catTo xs (k + 1)).length ≤ n) :
    splice (catTo xs k ++ List.replicate (n - (catTo xs k).length) 0) (catTo xs k).length xs[k].data.toList = catTo xs (k + 1) ++ List.replicate (n - (catTo xs (k + 1)).length) 0 := by
  have hl : xs[k].data.toList.length = xs[k].size := by simp
  rw [catTo_succ xs k h] at hn ⊢
  simp only [List.length_append] at hn ⊢
  unfold splice
  rw [List.take_left', List.drop_append]
  · simp
    rw [List.drop_eq_nil_of_le (by omega), List.nil_append, Nat.sub_sub]
  · rfl

theorem info_u8 : (Tryz.prog.info? 5).map (fun i => (i.zero, i.size, i.bytes)) = some (some (.int .u8 0), 1, 1) := by kernel_rfl

set_option maxHeartbeats 1000000 in
theorem joined_any (xs : List ByteArray) (g cap : Nat) (w : World) (hg : g < w.heap.size) (hc : ∀ k (h : k < xs.length), w.cell? ⟨g, k, none⟩ = some (.string xs[k])) (hcap : xs.length ≤ cap)
    (hn : (catTo xs xs.length).length ≤ 1099511627776) (hx : xs.length ≤ 1099511627776) :
    Calls Tryz.prog 72 #[.slice (some ⟨g, 0, none⟩) xs.length cap] w fun e w' => e = .returned (.string ⟨(catTo xs xs.length).toArray⟩) ∧ Below w.heap.size w w' := by
  have HC := Lib.hid hc
  clear hc
  have HN : Hid (∀ k, (catTo xs k).length ≤ (catTo xs xs.length).length) := catTo_le xs
  go_enter Tryz.func72, Tryz.ntmps72
  go_wp2
  go_loop [3, 12] (fun t i => ∃ k : Nat, k ≤ xs.length ∧ i = .int .i64 k ∧ t = .int .i64 ((catTo xs k).length : Int)) (fun _ i => xs.length - (intOf i).toNat)
  case atStart => exact ⟨0, by omega, rfl, rfl⟩
  case round =>
    obtain ⟨k, hk, rfl, rfl⟩ := hrel
    have h1 := HN.out k
    by_cases hlt : k < xs.length
    · have hcell := HC.out k hlt
      have HS := Lib.hid (catTo_step xs k hlt)
      have h2 := HN.out (k + 1)
      have h3 : (catTo xs k).length + xs[k].size ≤ 1099511627776 := by rw [← HS.out]; omega
      go_wp2
      go_round
      case rel => exact ⟨k + 1, by omega, by go_num, by rw [HS.out]; go_num⟩
      case measure => simp [intOf]; omega
    · obtain rfl : k = xs.length := by omega
      generalize hN : (catTo xs xs.length).length = n at *
      have HNN := Lib.hid hN
      clear hN
      go_wp2_with (refine wpList_make_bytes Tryz.underlying31 info_u8 w.heap.size n n rfl rfl rfl hn (Nat.le_refl _) ?_; intro w1 hb1 hbel1 hsz1)
      go_loopw [7, 25] (fun a i wr => ∃ k : Nat, k ≤ xs.length ∧ i = .int .i64 k ∧ a = .int .i64 ((catTo xs k).length : Int) ∧ Below w.heap.size w wr ∧ Hid (wr.heap[w.heap.size]? = some (.cells (bytesV (catTo xs k ++ List.replicate (n - (catTo xs k).length) 0)).toArray 5 (0, 0)))) (fun _ i _ => xs.length - (intOf i).toNat)
      case atStart => exact ⟨0, by omega, rfl, rfl, hbel1, by simpa [catTo] using hb1⟩
      case round =>
        obtain ⟨k, hk, rfl, rfl, hbel, hrow⟩ := hrel
        have h1 := HN.out k
        by_cases hlt : k < xs.length
        · have hcell := (hbel.cell (p := ⟨g, k, none⟩) hg).trans (HC.out k hlt)
          have HS := Lib.hid (catTo_step xs k hlt)
          have h2 := HN.out (k + 1)
          have h3 : (catTo xs k).length + xs[k].size ≤ n := by rw [← HS.out]; omega
          have HSP := Lib.hid (splice_cat xs k n hlt h2)
          go_wp2_with (refine wpList_copy_str Tryz.underlying31 info_u8 _ _ _ xs[k] rfl rfl w.heap.size (catTo xs k).length (catTo xs k ++ List.replicate (n - (catTo xs k).length) 0) 5 hrow ?_ ?_ ?_ w.heap.size w hbel (Nat.le_refl _) ?_; rotate_left 3; intro w2 hrow2 hbel2)
          · go_roundw
            case rel => exact ⟨k + 1, by omega, by go_num, by rw [HS.out]; go_num, hbel2, by rw [HSP.out] at hrow2; exact hrow2⟩
            case measure => simp [intOf]; omega
          · omega
          · intro h; omega
          · simp; omega
        · obtain rfl : k = xs.length := by omega
          have hown : OwnB wr w.heap.size 5 (.slice (some ⟨w.heap.size, 0, none⟩) n n) (catTo xs xs.length) :=
            ownB_of_row (by rw [HNN.out, Nat.sub_self] at hrow; simpa using hrow) (Nat.le_refl _) HNN.out hn
          go_wp2_with (refine wpList_str_own Tryz.underlying31 Tryz.underlying5 Tryz.underlying9 w.heap.size _ _ rfl hown ?_)
          go_ret
          exact ⟨rfl, hbel⟩

theorem joined_two (a b : ByteArray) (w : World) (e' : TypeId) (h : a.size + b.size ≤ 1099511627776) :
    Calls Tryz.prog 72 #[.slice (some ⟨w.heap.size, 0, none⟩) 2 2] (w.alloc (.cells #[.string a, .string b] e')) fun e w' => e = .returned (.string ⟨(a.data.toList ++ b.data.toList).toArray⟩) ∧ Below w.heap.size w w' := by
  have hc : catTo [a, b] [a, b].length = a.data.toList ++ b.data.toList := by simp [catTo]
  have hl : (a.data.toList ++ b.data.toList).length = a.size + b.size := by simp
  have := joined_any [a, b] w.heap.size 2 (w.alloc (.cells #[.string a, .string b] e')) (by simp) (fun k hk => by
    have e1 := cell_of_row _ w.heap.size k _ e' (0, 0) (heap_alloc_new w (.cells #[.string a, .string b] e'))
    rw [e1]
    match k, hk with
    | 0, _ => rfl
    | 1, _ => rfl) (by simp) (by rw [hc, hl]; exact h) (by simp)
  rw [hc] at this
  exact this.mono fun e w' ⟨h1, h2⟩ => ⟨h1, ((Below.refl w.heap.size w).alloc (Nat.le_refl _) _).trans (h2.mono (by simp))⟩
theorem joined_one (a : ByteArray) (w : World) (e' : TypeId) (h : a.size ≤ 1099511627776) :
    Calls Tryz.prog 72 #[.slice (some ⟨w.heap.size, 0, none⟩) 1 1] (w.alloc (.cells #[.string a] e')) fun e w' => e = .returned (.string a) ∧ Below w.heap.size w w' := by
  have hc : catTo [a] [a].length = a.data.toList := by simp [catTo]
  have hl : a.data.toList.length = a.size := by simp
  have := joined_any [a] w.heap.size 1 (w.alloc (.cells #[.string a] e')) (by simp) (fun k hk => by
    have e1 := cell_of_row _ w.heap.size k _ e' (0, 0) (heap_alloc_new w (.cells #[.string a] e'))
    rw [e1]
    match k, hk with
    | 0, _ => rfl) (by simp) (by rw [hc, hl]; exact h) (by simp)
  rw [hc] at this
  exact this.mono fun e w' ⟨h1, h2⟩ => ⟨h1, ((Below.refl w.heap.size w).alloc (Nat.le_refl _) _).trans (h2.mono (by simp))⟩
theorem joined_three (a b c : ByteArray) (w : World) (e' : TypeId) (h : a.size + b.size + c.size ≤ 1099511627776) :
    Calls Tryz.prog 72 #[.slice (some ⟨w.heap.size, 0, none⟩) 3 3] (w.alloc (.cells #[.string a, .string b, .string c] e')) fun e w' => e = .returned (.string ⟨(a.data.toList ++ (b.data.toList ++ c.data.toList)).toArray⟩) ∧ Below w.heap.size w w' := by
  have hc : catTo [a, b, c] [a, b, c].length = a.data.toList ++ (b.data.toList ++ c.data.toList) := by simp [catTo]
  have hl : (a.data.toList ++ (b.data.toList ++ c.data.toList)).length = a.size + b.size + c.size := by simp; omega
  have := joined_any [a, b, c] w.heap.size 3 (w.alloc (.cells #[.string a, .string b, .string c] e')) (by simp) (fun k hk => by
    have e1 := cell_of_row _ w.heap.size k _ e' (0, 0) (heap_alloc_new w (.cells #[.string a, .string b, .string c] e'))
    rw [e1]
    match k, hk with
    | 0, _ => rfl
    | 1, _ => rfl
    | 2, _ => rfl) (by simp) (by rw [hc, hl]; exact h) (by simp)
  rw [hc] at this
  exact this.mono fun e w' ⟨h1, h2⟩ => ⟨h1, ((Below.refl w.heap.size w).alloc (Nat.le_refl _) _).trans (h2.mono (by simp))⟩

end Go.Proofs.YtihlilihipcfaaaGreatDoor
namespace Go.Proofs.YtihlilihipcfaaaGreatDoor
open Go.ChangeShapes Go.WideShapes Go.ChangeAt Go.RowKit Go.ChangeMaps
set_option maxRecDepth 10000
set_option linter.unusedSimpArgs false
set_option linter.unusedVariables false

set_option maxHeartbeats 400000 in
theorem digits_any (n : Int) (h0 : 0 ≤ n) (h1 : n < 10) (w : World) : Calls Tryz.prog 47 #[.int .i64 n] w fun e w' => e = .returned (.string (dgT n)) ∧ w = w' := by
  obtain ⟨m, rfl⟩ := nat_of h0
  have HF : Hid (∀ W : World, Calls Tryz.prog 97 #[.int .i64 m, .int .i64 10] W fun e w' => e = .returned (.string (dgT (m : Int))) ∧ W = w') := fun W => formatSmall m (by omega) W
  generalize dgT (m : Int) = D at *
  go_enter Tryz.func47, Tryz.ntmps47
  go_wp2_with fail
  refine (HF.out _).mono ?_
  rintro e w' ⟨rfl, rfl⟩
  go_wp2_with fail
  go_ret
  exact ⟨rfl, rfl⟩
abbrev lvA : ByteArray := ⟨#[108, 105, 118, 101]⟩
abbrev gnA : ByteArray := ⟨#[103, 111, 110, 101]⟩
abbrev twA : ByteArray := ⟨#[116, 111]⟩
abbrev plA : ByteArray := ⟨#[43]⟩
set_option maxHeartbeats 400000 in
theorem stateWord_any (b : Bool) (w : World) : Calls Tryz.prog 69 #[.bool b] w fun e w' => e = .returned (.string (if b then lvA else gnA)) ∧ w = w' := by
  cases b
  · go_enter Tryz.func69, Tryz.ntmps69
    go_wp2
    go_ret
    exact ⟨rfl, rfl⟩
  · go_enter Tryz.func69, Tryz.ntmps69
    go_wp2
    go_ret
    exact ⟨rfl, rfl⟩

/-- All of a list, one behind the other. -/
def catB (xs : List ByteArray) : ByteArray := ⟨(catTo xs xs.length).toArray⟩
theorem catTo_all (xs : List ByteArray) : catTo xs xs.length = xs.flatMap fun s => s.data.toList := by rw [catTo, List.take_length]
theorem catB_data (xs : List ByteArray) : (catB xs).data.toList = xs.flatMap fun s => s.data.toList := by rw [catB, catTo_all]
theorem ba_ext {a b : ByteArray} (h : a.data.toList = b.data.toList) : a = b := ByteArray.ext (Array.toList_inj.1 h)
theorem ba_app (a b : ByteArray) : (a ++ b).data.toList = a.data.toList ++ b.data.toList := by simp
theorem catB_size (xs : List ByteArray) : (catTo xs xs.length).length = (catB xs).size := by rw [catB, bsize]

/-- The house that made a booking, and its number there. -/
def placeT (h l : Int) : ByteArray := (dgT h ++ dotA) ++ dgT l
theorem placeT_data (h l : Int) : placeT h l = ⟨((dgT h).data.toList ++ (dotA.data.toList ++ (dgT l).data.toList)).toArray⟩ := by
  apply ba_ext
  rw [placeT, ba_app, ba_app]
  simp
theorem placeT_size {h l : Int} (h0 : 0 ≤ h) (h1 : h < 10) (l0 : 0 ≤ l) (l1 : l < 10) : (placeT h l).size = 3 := by
  simp [placeT, ByteArray.size_append, dgT_size h0 h1, dgT_size l0 l1]
  rfl
set_option maxHeartbeats 400000 in
theorem placeText_any (h l : Int) (h0 : 0 ≤ h) (h1 : h < 10) (l0 : 0 ≤ l) (l1 : l < 10) (w : World) : Calls Tryz.prog 68 #[.int .i64 h, .int .i64 l] w fun e w' => e = .returned (.string (placeT h l)) ∧ Below w.heap.size w w' := by
  have HDh : Hid (∀ W : World, Calls Tryz.prog 47 #[.int .i64 h] W fun e w' => e = .returned (.string (dgT h)) ∧ W = w') := fun W => digits_any h h0 h1 W
  have HDl : Hid (∀ W : World, Calls Tryz.prog 47 #[.int .i64 l] W fun e w' => e = .returned (.string (dgT l)) ∧ W = w') := fun W => digits_any l l0 l1 W
  have s1 := dgT_size h0 h1
  have s2 := dgT_size l0 l1
  have HJ : Hid (∀ W : World, Calls Tryz.prog 72 #[.slice (some ⟨W.heap.size, 0, none⟩) 3 3] (W.alloc (.cells #[.string (dgT h), .string dotA, .string (dgT l)] 9)) fun e w' => e = .returned (.string (placeT h l)) ∧ Below W.heap.size W w') := fun W => by
    rw [placeT_data]
    exact joined_three (dgT h) dotA (dgT l) W 9 (by rw [s1, s2]; decide)
  clear s1 s2
  generalize placeT h l = R at *
  generalize dgT h = gh at *
  generalize dgT l = gl at *
  go_enter Tryz.func68, Tryz.ntmps68
  go_wp2_with (first | (go_at_call 47; (first | (with_reducible refine (HDh.out _).mono ?_) | (with_reducible refine (HDl.out _).mono ?_)); rintro e w' ⟨rfl, rfl⟩))
  refine (HJ.out _).mono ?_
  rintro e w' ⟨rfl, hb⟩
  go_wp2_with fail
  go_ret
  exact ⟨rfl, hb⟩

def parts0 (h l o : Int) (b : Bool) : List ByteArray := [placeT h l, ofA, dgT o, spA, if b then lvA else gnA]
def parts1 (f : Int) (ps : List ByteArray) : List ByteArray := if f = 0 then ps else ps ++ [spA, twA, spA, dgT f]
def partsN (ps : List ByteArray) (l : List ByteArray) : List ByteArray := ps ++ l.flatMap fun s => [spA, plA, s]
def partsH (ps : List ByteArray) (l : List HD) : List ByteArray := ps ++ l.flatMap fun x => [spA, x.f, colA, seatT x.r x.c]
theorem cat_parts0 (h l o : Int) (b : Bool) : (catB (parts0 h l o b)) = liveT b (headT h l o) := by
  apply ba_ext
  rw [catB_data]
  cases b <;> simp [parts0, liveT, headT, placeT]
theorem cat_parts1 (f : Int) (ps : List ByteArray) : catB (parts1 f ps) = offT f (catB ps) := by
  apply ba_ext
  rw [catB_data, parts1, offT]
  split
  · rw [catB_data]
  · rw [ba_app, ba_app, catB_data]
    simp
theorem cat_partsN (ps : List ByteArray) (l : List ByteArray) : catB (partsN ps l) = l.foldl nameT (catB ps) := by
  induction l generalizing ps with
  | nil => simp [partsN]
  | cons s l ih =>
    have h1 : partsN ps (s :: l) = partsN (ps ++ [spA, plA, s]) l := by simp [partsN]
    have h2 : catB (ps ++ [spA, plA, s]) = nameT (catB ps) s := by
      apply ba_ext
      rw [catB_data, nameT, ba_app, ba_app, catB_data]
      simp
    rw [h1, ih, h2]
    rfl
theorem cat_partsH (ps : List ByteArray) (l : List HD) : catB (partsH ps l) = l.foldl holdT (catB ps) := by
  induction l generalizing ps with
  | nil => simp [partsH]
  | cons s l ih =>
    have h1 : partsH ps (s :: l) = partsH (ps ++ [spA, s.f, colA, seatT s.r s.c]) l := by simp [partsH]
    have h2 : catB (ps ++ [spA, s.f, colA, seatT s.r s.c]) = holdT (catB ps) s := by
      apply ba_ext
      rw [catB_data, holdT, ba_app, ba_app, ba_app, ba_app, catB_data]
      simp
    rw [h1, ih, h2]
    rfl
theorem partsN_succ {ps l : List ByteArray} {k : Nat} {s : ByteArray} (h : l[k]? = some s) : partsN ps (l.take (k + 1)) = partsN ps (l.take k) ++ [spA, plA, s] := by
  rw [List.take_add_one, h]
  simp [partsN]
theorem partsH_snoc (ps : List ByteArray) (l : List HD) (x : HD) : partsH ps (l ++ [x]) = partsH ps l ++ [spA, x.f, colA, seatT x.r x.c] := by
  simp [partsH]

theorem partsN_len (ps : List ByteArray) (l : List ByteArray) : (partsN ps l).length = ps.length + 3 * l.length := by
  rw [partsN, List.length_append]
  congr 1
  induction l with
  | nil => rfl
  | cons s l ih => simp only [List.flatMap_cons, List.length_append, ih, List.length_cons, List.length_nil]; omega
theorem partsH_len (ps : List ByteArray) (l : List HD) : (partsH ps l).length = ps.length + 4 * l.length := by
  rw [partsH, List.length_append]
  congr 1
  induction l with
  | nil => rfl
  | cons s l ih => simp only [List.flatMap_cons, List.length_append, ih, List.length_cons, List.length_nil]; omega

theorem info_strT : (Tryz.prog.info? 9).map (fun i => (i.zero, i.size, i.bytes)) = some (some (.string ⟨#[]⟩), 1, 16) := by kernel_rfl

/-- The parts so far, in their box; the booking in its. -/
def PBx (bk : Array Value) (w : World) (g : Nat) (ps : List ByteArray) (W : World) : Prop :=
  ∃ v, Boxed W g 37 v ∧ W.ownsRow w.heap.size 9 1 v ps.length (strsC ps) ∧ Block W w.heap.size 40 bk ∧ Below w.heap.size w W ∧ w.heap.size < g
theorem block_not_row {W : World} {B : Nat} {t e : TypeId} {cs : Array Value} (h : Block W B t cs) (hte : t ≠ e) {base size k : Nat} {v : Value} {xs : List Value} (hr : W.ownsRow base e size v k xs) : some B ≠ v.ownBlock := by
  rcases hr.2 with ⟨rfl, _⟩ | ⟨g, cap, cur, rfl, _, hgb, _⟩
  · simp [Value.ownBlock]
  · intro e'
    obtain rfl : B = g := by simpa [Value.ownBlock] using e'
    have := (show W.heap[B]? = _ from h).symm.trans hgb
    simp at this
    exact hte this.2
theorem PBx.on {bk : Array Value} {w W W' : World} {g : Nat} {ps : List ByteArray} (h : PBx bk w g ps W) (hb : Below W.heap.size W W') : PBx bk w g ps W' := by
  obtain ⟨v, h1, h2, h3, h4, h5⟩ := h
  exact ⟨v, h1.kept (row := none) (grown_of_below hb none) (by simp), ownsRow_below h2 hb, h3.on hb, h4.trans (hb.mono h4.size), h5⟩
theorem PBx.drew {bk : Array Value} {w W : World} {g : Nat} {ps : List ByteArray} (h : PBx bk w g ps W) : PBx bk w g ps W.drew := h.on (Below.refl _ W).drew
/-- Behind an append to them. -/
theorem PBx.app {bk : Array Value} {w W w1 : World} {g : Nat} {ps qs : List ByteArray} {v v' : Value} {tmp : Obj} {m : Nat} (hv : Boxed W g 37 v) (hr : W.ownsRow w.heap.size 9 1 v ps.length (strsC ps)) (hbk : Block W w.heap.size 40 bk) (hB : Below w.heap.size w W) (hg : w.heap.size < g)
    (hown : w1.ownsRow w.heap.size 9 1 v' m (strsC qs)) (hm : m = qs.length) (hgr : (W.alloc tmp).grownBy w1 v.ownBlock) : PBx bk w g qs (w1.setCell ⟨g, 0, none⟩ v') := by
  subst hm
  obtain ⟨q1, q2, q3, q4, q5⟩ := Boxed.appended hv (by decide) hr hB.size (Nat.le_of_lt hg) hown hgr
  refine ⟨v', q2, q3, ?_, hB.trans q5, hg⟩
  have b1 : Block w1 w.heap.size 40 bk := (hbk.alloc tmp).kept hgr (block_not_row hbk (by decide) hr)
  exact b1.far (by show _ ≠ g; omega) _

/-- As they are laid at first: the row, then its box; or the box, then the row; or the box long ahead. -/
theorem PBx.makeA {bk cs : Array Value} {w w1 : World} {ps : List ByteArray} {n : Nat} (hB : Below w.heap.size w w1) (X : Block w1 w.heap.size 40 bk) (hcs : cs.toList = strsC ps) (hn : n = ps.length) (hm : n ≤ 1000) :
    PBx bk w (w1.heap.size + 1) ps ((w1.alloc (.cells cs 9)).alloc (.cells #[.slice (some ⟨w1.heap.size, 0, none⟩) n n] 37)) := by
  subst hn
  have hsz : cs.size = ps.length * 1 := by
    have := congrArg List.length hcs
    simpa [strsC_length] using this
  have r := World.ownsRow_lit (base := w.heap.size) (e := 9) (size := 1) w1 cs ps.length hB.size (by unfold maxLen; omega) hsz
  rw [hcs] at r
  refine ⟨_, ?_, r.alloc _, (X.alloc _).alloc _, (hB.alloc hB.size _).alloc (by have := hB.size; simp; omega) _, by have := X.lt; omega⟩
  have := Boxed.new (w1.alloc (.cells cs 9)) 37 (.slice (some ⟨w1.heap.size, 0, none⟩) ps.length ps.length)
  simpa using this
theorem PBx.makeB {bk cs : Array Value} {w w1 : World} {ps : List ByteArray} {n : Nat} (hB : Below w.heap.size w w1) (X : Block w1 w.heap.size 40 bk) (hcs : cs.toList = strsC ps) (hn : n = ps.length) (hm : n ≤ 1000) :
    PBx bk w w1.heap.size ps ((w1.alloc (.cells #[.slice (some ⟨w1.heap.size + 1, 0, none⟩) n n] 37)).alloc (.cells cs 9)) := by
  subst hn
  have hsz : cs.size = ps.length * 1 := by
    have := congrArg List.length hcs
    simpa [strsC_length] using this
  have hB1 := hB.alloc hB.size (.cells #[.slice (some ⟨w1.heap.size + 1, 0, none⟩) ps.length ps.length] 37)
  have r := World.ownsRow_lit (base := w.heap.size) (e := 9) (size := 1) (w1.alloc (.cells #[.slice (some ⟨w1.heap.size + 1, 0, none⟩) ps.length ps.length] 37)) cs ps.length hB1.size (by unfold maxLen; omega) hsz
  rw [hcs, World.size_alloc] at r
  exact ⟨_, (Boxed.new w1 37 (.slice (some ⟨w1.heap.size + 1, 0, none⟩) ps.length ps.length)).alloc _, r, (X.alloc _).alloc _, hB1.alloc hB1.size _, X.lt⟩
theorem PBx.makeC {bk cs : Array Value} {w w1 : World} {ps : List ByteArray} {n g : Nat} (hB : Below w.heap.size w w1) (X : Block w1 w.heap.size 40 bk) (hA : Block w1 g 37 #[.slice none 0 0]) (hg : w.heap.size < g) (hcs : cs.toList = strsC ps) (hn : n = ps.length) (hm : n ≤ 1000) :
    PBx bk w g ps ((w1.setCell ⟨g, 0, none⟩ (.slice (some ⟨w1.heap.size, 0, none⟩) n n)).alloc (.cells cs 9)) := by
  subst hn
  have hsz : cs.size = ps.length * 1 := by
    have := congrArg List.length hcs
    simpa [strsC_length] using this
  have hB1 := hB.setCell (p := ⟨g, 0, none⟩) (Nat.le_of_lt hg) (.slice (some ⟨w1.heap.size, 0, none⟩) ps.length ps.length)
  have r := World.ownsRow_lit (base := w.heap.size) (e := 9) (size := 1) (w1.setCell ⟨g, 0, none⟩ (.slice (some ⟨w1.heap.size, 0, none⟩) ps.length ps.length)) cs ps.length hB1.size (by unfold maxLen; omega) hsz
  rw [hcs, World.size_setCell] at r
  refine ⟨.slice (some ⟨w1.heap.size, 0, none⟩) ps.length ps.length, ?_, r, (X.far (Nat.ne_of_lt hg) _).alloc _, hB1.alloc hB1.size _, hg⟩
  have h1 := (hA.set_ 0 (.slice (some ⟨w1.heap.size, 0, none⟩) ps.length ps.length)).alloc (.cells cs 9)
  simp at h1
  exact h1

/-- append(out, xs...), inside a fence, out of a block that was laid for it. -/
theorem wpListIn_append_blk {F : Fence} {nF : Nat} {P : Program} {ops : Array Oper} {rest : List Oper} {o : Oper} {a : Act} {Q : Exit → Act → World → Prop} {W : World} (hgd : o.guard = none) (s x : Operand) (t : TypeId) (ho : o.op = .call { callee := .builtin .append, args := #[s, x], argTypes := #[t, t] })
    {e : TypeId} {z : Value} {k bytes : Nat} (ht : P.underlying t = some (.slice e)) (hi : (P.info? e).map (fun i => (i.zero, i.size, i.bytes)) = some (some z, k, bytes)) (hzs : z.cells.size = k) (hk : 0 < k) (hby : bytes ≤ 1000)
    {base n : Nat} {v : Value} {xs : List Value} (hown : W.ownsRow base e k v n xs) (hs : a.eval s = v) {B m : Nat} (c : Nat) {A : Option Addr} {news : List Value} (hl : Lies W B k A m news) (hx : a.eval x = .slice A m c)
    (h1 : ∀ u ∈ news, u.oneCell' = true) (hlen : n + m ≤ 1099511627) (hbase : base ≤ W.heap.size)
    (h : ∀ A' c' w', w'.ownsRow base e k (.slice A' (n + m) c') (n + m) (xs ++ news) → W.grownBy w' v.ownBlock → wpListIn F nF P ops Q rest (a.put o.dst (.slice A' (n + m) c')) w') :
    wpListIn F nF P ops Q (o :: rest) a W := by
  refine wpListIn_plain hgd fun K hK => ?_
  obtain ⟨v', w', hr, h2, h3⟩ := run_append_lies (ty := o.type) (c := c) ht hi hzs hk hby hown hl h1 hlen hbase
  obtain ⟨A', c', rfl, -, -⟩ := own_form h2
  unfold Oper.wpIn
  refine ⟨by simp [Oper.about, ho, resolve, Target.leads, Sem.run_pure], ?_⟩
  rw [Oper.semAt_plain F _ _ (by rw [ho]; intro c hc'; cases hc')]
  simp [execOp, ho, resolve, invoke, builtin, hs, hx, hr, Result.andThen]
  exact hK _ _ (h A' c' w' h2 h3)
end Go.Proofs.YtihlilihipcfaaaGreatDoor
namespace Go.Proofs.YtihlilihipcfaaaGreatDoor
open Go.ChangeShapes Go.WideShapes Go.ChangeAt Go.RowKit Go.ChangeMaps
set_option maxRecDepth 10000
set_option linter.unusedSimpArgs false
set_option linter.unusedVariables false

set_option maxHeartbeats 1000000 in
theorem sSeatText_any (r c : Int) (w : World) : Calls Tryz.prog 116 #[seatV r c] w fun e w' => e = .returned (.string ⟨(seatTextL r c).toArray⟩) ∧ Below w.heap.size w w' := by
  have HS : Hid (∀ W : World, Calls Tryz.prog 60 #[seatV r c] W fun e w' => e = .returned (.bool (seatB r c)) ∧ Below W.heap.size W w') := fun W => sSeatRight_any r c W
  obtain ⟨b, hb⟩ : ∃ b, seatB r c = b := ⟨_, rfl⟩
  have HB := Lib.hid hb
  rw [hb] at HS
  cases b
  · clear hb
    go_enter Tryz.func116, Tryz.ntmps116
    go_wp2_with fail
    refine (HS.out _).mono ?_
    rintro e w1 ⟨rfl, hb1⟩
    go_wp2_with fail
    go_ret
    exact ⟨by rw [seatTextL, if_neg (by rw [HB.out]; simp)]; rfl, ((Below.refl _ _).alloc (Nat.le_refl _) _).trans (hb1.mono (by simp))⟩
  · obtain ⟨⟨r1, r2⟩, c1, c2⟩ := seatB_parts hb
    clear hb
    obtain ⟨r, rfl⟩ := nat_of (show 0 ≤ r by omega)
    obtain ⟨c, rfl⟩ := nat_of c1
    have HT : Hid (∀ W : World, Calls Tryz.prog 81 #[seatV r c] W fun e w' => e = .returned (.string ⟨(seatTextL (r : Int) (c : Int)).toArray⟩) ∧ Below W.heap.size W w') := fun W => by
      rw [seatTextL, if_pos HB.out]
      exact l02Text_any r c W (by omega) (by omega)
    generalize seatTextL (r : Int) (c : Int) = L at *
    go_enter Tryz.func116, Tryz.ntmps116
    go_wp2_with fail
    refine (HS.out _).mono ?_
    rintro e w1 ⟨rfl, hb1⟩
    have c00 := kc hb1 (b := w.heap.size) (i := 0) (v := .int .i64 r) (by go_simp) (by simp)
    have c01 := kc hb1 (b := w.heap.size) (i := 1) (v := .int .i64 c) (by go_simp) (by simp)
    have hz : w.heap.size < w1.heap.size := by have := hb1.size; simp at this; omega
    have hB : Below w.heap.size w w1 := ((Below.refl _ _).alloc (Nat.le_refl _) _).trans (hb1.mono (by simp))
    clear hb1
    go_wp2_with fail
    refine (HT.out _).mono ?_
    rintro e w2 ⟨rfl, hb2⟩
    go_wp2_with fail
    go_ret
    exact ⟨rfl, hB.trans (hb2.mono (by omega))⟩
end Go.Proofs.YtihlilihipcfaaaGreatDoor
namespace Go.Proofs.YtihlilihipcfaaaGreatDoor
open Go.ChangeShapes Go.WideShapes Go.ChangeAt Go.RowKit Go.ChangeMaps
set_option maxRecDepth 10000
set_option linter.unusedSimpArgs false
set_option linter.unusedVariables false

/-- The variable holds an interface value that is not nil. -/
def IfaceVar (W : World) (n : String) : Prop := ∃ u v, W.var? Tryz.prog n = some #[.iface u v]
theorem IfaceVar.below {W W' : World} {n : String} {B : Nat} (h : IfaceVar W n) (hb : Below B W W') (hB : W.heap.size ≤ B) : IfaceVar W' n := by
  obtain ⟨u, v, hv⟩ := h
  refine ⟨u, v, ?_⟩
  cases hg : Tryz.prog.globalNamed n with
  | none => simp [World.var?, hg] at hv
  | some g => exact Joins.var_stays hg hv hb hB
theorem laid_ifaceVar {L : List (String × DataW Unit)} {W : World} {n nm : String} {d : DataW Unit} {ms : Array (String × TypeId)} (k : Nat) (h : laidMet Tryz.prog L W) (hm : L[k]? = some (n, .iface nm d)) {g : Nat} {ti : TypeId}
    (hg : Tryz.prog.globalNamed n = some g) (ht : (Tryz.prog.globals[g]?).map (·.type) = some ti) (hi : Tryz.prog.underlying ti = some (.interface ms)) : IfaceVar W n := by
  induction L generalizing k with
  | nil => cases hm
  | cons x r ih =>
    cases k with
    | succ k => exact ih k h.tail hm
    | zero =>
      cases hm
      obtain ⟨ps, ⟨g0, t0, cs0, f0, p0, q0, hg0, ht0, hv0, hd0, _, e0⟩, _, hrows⟩ := h
      obtain rfl := Option.some.inj (hg.symm.trans hg0)
      obtain rfl := Option.some.inj (ht.symm.trans ht0)
      obtain ⟨f1, u, v, hcs, _⟩ := iface_of_trod hi hd0
      exact ⟨u, v, by rw [hv0, Array.eq_one_of_toList hcs]⟩

/-- The two sentinels that strconv's errors bear. -/
def ErrVars (W : World) : Prop := IfaceVar W "strconv.ErrSyntax" ∧ IfaceVar W "strconv.ErrRange"
theorem ErrVars.below {W W' : World} {B : Nat} (h : ErrVars W) (hb : Below B W W') (hB : W.heap.size ≤ B) : ErrVars W' := ⟨h.1.below hb hB, h.2.below hb hB⟩

theorem parseInt_ok (s : ByteArray) (hs : s.size ≤ 1048576) (v : Int) (h : Lib.parseIntB 64 s.data.toList = .ok v) (w : World) :
    Calls Tryz.prog 118 #[.string s, .int .i64 10, .int .i64 64] w fun e w' => e = .returned (.tuple #[.int .i64 v, .nilIface]) ∧ Below w.heap.size w w' := by
  refine (Tryz.strconv_ParseInt_10_at64_ok s (by omega) v h w).mono ?_
  rintro e w' ⟨rfl, rfl | ⟨t, rfl⟩⟩
  · exact ⟨rfl, Below.refl _ _⟩
  · exact ⟨rfl, Joins.below_bytesWorld _ _ _ _ (Nat.le_refl _)⟩

theorem parseInt_no (s : ByteArray) (hs : s.size ≤ 1048576) (h : ∀ v, Lib.parseIntB 64 s.data.toList ≠ .ok v) (w : World) (hE : ErrVars w) :
    Calls Tryz.prog 118 #[.string s, .int .i64 10, .int .i64 64] w fun e w' => (∃ n N, e = .returned (.tuple #[.int .i64 n, .iface 191 (.pointer (some ⟨N, 0, none⟩))])) ∧ Below w.heap.size w w' := by
  obtain ⟨⟨u1, v1, h1⟩, u2, v2, h2⟩ := hE
  rcases hp : Lib.parseIntB 64 s.data.toList with v | _ | _
  · exact absurd hp (h v)
  · refine (Any.strconv_ParseInt_10_at64_syntax_var Tryz.laysC174 s (by omega) hp u1 v1 w h1).mono ?_
    rintro e w' ⟨N, he, _, _, hb⟩
    exact ⟨⟨_, N, he⟩, hb⟩
  · refine (Any.strconv_ParseInt_10_at64_range_var Tryz.laysC174 s (by omega) hp u2 v2 w h2).mono ?_
    rintro e w' ⟨N, he, _, _, hb⟩
    exact ⟨⟨_, N, he⟩, hb⟩
end Go.Proofs.YtihlilihipcfaaaGreatDoor
namespace Go.Proofs.YtihlilihipcfaaaGreatDoor
open Go.RowKit

set_option maxHeartbeats 400000 in
theorem tooLong_any (s : ByteArray) (w : World) : Calls Tryz.prog 41 #[.string s] w fun e w' => e = .returned (.bool (decide (8000 < (s.size : Int)))) ∧ w = w' := by
  go_enter Tryz.func41, Tryz.ntmps41
  go_wp2
  go_ret
  exact ⟨rfl, rfl⟩

end Go.Proofs.YtihlilihipcfaaaGreatDoor
namespace Go.Proofs.YtihlilihipcfaaaGreatDoor
open Go.ChangeShapes Go.WideShapes Go.ChangeAt Go.RowKit Go.ChangeMaps
set_option maxRecDepth 10000
set_option linter.unusedSimpArgs false
set_option linter.unusedVariables false

/-- The column of a letter. -/
def colI (n : Int) : Int := if 97 ≤ n ∧ n ≤ 102 then n - 97 else -1
set_option maxHeartbeats 400000 in
theorem colOf_any (n : Int) (w : World) : Calls Tryz.prog 132 #[.int .u8 n] w fun e w' => e = .returned (.int .i64 (colI n)) ∧ w = w' := by
  by_cases h : 97 ≤ n ∧ n ≤ 102
  · have hc : n = 97 ∨ n = 98 ∨ n = 99 ∨ n = 100 ∨ n = 101 ∨ n = 102 := by omega
    rcases hc with rfl | rfl | rfl | rfl | rfl | rfl
    all_goals
      clear h
      go_enter Tryz.func132, Tryz.ntmps132
      go_wp2
      go_ret
      exact ⟨rfl, rfl⟩
  · have HR : Hid (colI n = -1) := by rw [Hid, colI, if_neg h]
    have h1 : (n == 97) = false := by rw [beq_eq_false_iff_ne]; omega
    have h2 : (n == 98) = false := by rw [beq_eq_false_iff_ne]; omega
    have h3 : (n == 99) = false := by rw [beq_eq_false_iff_ne]; omega
    have h4 : (n == 100) = false := by rw [beq_eq_false_iff_ne]; omega
    have h5 : (n == 101) = false := by rw [beq_eq_false_iff_ne]; omega
    have h6 : (n == 102) = false := by rw [beq_eq_false_iff_ne]; omega
    clear h
    go_enter Tryz.func132, Tryz.ntmps132
    go_wp2
    go_ret
    exact ⟨ret_int HR.out.symm, rfl⟩

theorem not_empty {s : ByteArray} (h0 : 0 < s.size) : s.toList.isEmpty = false := by
  rw [ByteArray.toList_eq]
  cases hl : s.data.toList with
  | nil =>
    have e : s.data.toList.length = s.size := by simp
    rw [hl] at e
    simp at e
    omega
  | cons a r => rfl

set_option maxHeartbeats 1000000 in
theorem seatOf_no (s : ByteArray) (w : World) (hs : s.size ≤ 8000) (h0 : 0 < s.size) (hp : ∀ v, Lib.parseIntB 64 (s.extract 0 (s.size - 1)).data.toList ≠ .ok v) (hE : ErrVars w) :
    Calls Tryz.prog 117 #[.string s] w fun e w' => e = .returned (seatV 0 0) ∧ Below w.heap.size w w' := by
  have hin : (s.extract 0 (s.size - 1)).size ≤ 1048576 := by simp; omega
  have HX : Hid (s.extract 0 (s.size - 1) = s.extract 0 (s.size - 1)) := rfl
  have HP : Hid (∀ W : World, ErrVars W → Calls Tryz.prog 118 #[.string (s.extract 0 (s.size - 1)), .int .i64 10, .int .i64 64] W fun e w' => (∃ n N, e = .returned (.tuple #[.int .i64 n, .iface 191 (.pointer (some ⟨N, 0, none⟩))])) ∧ Below W.heap.size W w') := fun W hW => parseInt_no _ hin hp W hW
  have HC : Hid (∀ (n : Int) (W : World), Calls Tryz.prog 132 #[.int .u8 n] W fun e w' => e = .returned (.int .i64 (colI n)) ∧ W = w') := fun n W => colOf_any n W
  have HEE := Lib.hid hE
  have he1 : s.toList.isEmpty = false := not_empty h0
  clear hp hE hin
  go_enter Tryz.func117, Tryz.ntmps117
  go_wp2_with fail
  refine (HP.out _ (HEE.out.below ((Below.refl _ _).alloc (Nat.le_refl _) _) (Nat.le_refl _))).mono ?_
  rintro e w1 ⟨⟨n, N, rfl⟩, hb1⟩
  have hz : w.heap.size < w1.heap.size := by have := hb1.size; simp at this; omega
  have hB : Below w.heap.size w w1 := ((Below.refl _ _).alloc (Nat.le_refl _) _).trans (hb1.mono (by simp))
  have d0 := kc hb1 (b := w.heap.size) (i := 0) (v := .int .i64 0) (by go_simp) (by simp)
  have d1 := kc hb1 (b := w.heap.size) (i := 1) (v := .int .i64 0) (by go_simp) (by simp)
  have f0' := kf hb1 (b := w.heap.size) (i := 0) (by go_simp) (by simp)
  have f1' := kf hb1 (b := w.heap.size) (i := 1) (by go_simp) (by simp)
  clear hb1
  go_wp2_with fail
  refine (HC.out _ _).mono ?_
  rintro e w2 ⟨rfl, rfl⟩
  go_wp2_with fail
  refine bodyPost_ret (v := seatV 0 0) (by simp [results, Tryz.results117, go_sem, d0, d1, f0', f1', hz, Nat.ne_of_lt hz]) rfl ?_
  exact ⟨rfl, ((hB.setCell (by simp) _).setCell (by simp) _).alloc (by simp; omega) _⟩

set_option maxHeartbeats 1000000 in
theorem seatOf_ok (s : ByteArray) (v : Int) (w : World) (hs : s.size ≤ 8000) (h0 : 0 < s.size) (hp : Lib.parseIntB 64 (s.extract 0 (s.size - 1)).data.toList = .ok v) :
    Calls Tryz.prog 117 #[.string s] w fun e w' => e = .returned (if (⟨(seatTextL v (colI s[s.size - 1].toNat)).toArray⟩ : ByteArray) = s then seatV v (colI s[s.size - 1].toNat) else seatV 0 0) ∧ Below w.heap.size w w' := by
  have hin : (s.extract 0 (s.size - 1)).size ≤ 1048576 := by simp; omega
  have HP : Hid (∀ W : World, Calls Tryz.prog 118 #[.string (s.extract 0 (s.size - 1)), .int .i64 10, .int .i64 64] W fun e w' => e = .returned (.tuple #[.int .i64 v, .nilIface]) ∧ Below W.heap.size W w') := fun W => parseInt_ok _ hin v hp W
  have HC : Hid (∀ (n : Int) (W : World), Calls Tryz.prog 132 #[.int .u8 n] W fun e w' => e = .returned (.int .i64 (colI n)) ∧ W = w') := fun n W => colOf_any n W
  have HT : Hid (∀ W : World, Calls Tryz.prog 71 #[seatV v (colI s[s.size - 1].toNat)] W fun e w' => e = .returned (.string ⟨(seatTextL v (colI s[s.size - 1].toNat)).toArray⟩) ∧ Below W.heap.size W w') := fun W => iSeatText_any _ _ W
  have he1 : s.toList.isEmpty = false := not_empty h0
  generalize (⟨(seatTextL v (colI s[s.size - 1].toNat)).toArray⟩ : ByteArray) = T at *
  clear hp hin
  by_cases hq : T = s
  · rw [if_pos hq]
    subst hq
    go_enter Tryz.func117, Tryz.ntmps117
    go_wp2_with fail
    refine (HP.out _).mono ?_
    rintro e w1 ⟨rfl, hb1⟩
    have hz : w.heap.size < w1.heap.size := by have := hb1.size; simp at this; omega
    have hB : Below w.heap.size w w1 := ((Below.refl _ _).alloc (Nat.le_refl _) _).trans (hb1.mono (by simp))
    have d0 := kc hb1 (b := w.heap.size) (i := 0) (v := .int .i64 0) (by go_simp) (by simp)
    have d1 := kc hb1 (b := w.heap.size) (i := 1) (v := .int .i64 0) (by go_simp) (by simp)
    have f0' := kf hb1 (b := w.heap.size) (i := 0) (by go_simp) (by simp)
    have f1' := kf hb1 (b := w.heap.size) (i := 1) (by go_simp) (by simp)
    clear hb1
    go_wp2_with fail
    refine (HC.out _ _).mono ?_
    rintro e w2 ⟨rfl, rfl⟩
    go_wp2_with fail
    refine (HT.out _).mono ?_
    rintro e w2 ⟨rfl, hb2⟩
    have hz2 : w1.heap.size < w2.heap.size := by have := hb2.size; simp at this; omega
    have e0 := kc hb2 (b := w1.heap.size) (i := 0) (v := .int .i64 v) (by go_simp) (by simp)
    have e1 := kc hb2 (b := w1.heap.size) (i := 1) (v := .int .i64 (colI T[T.size - 1].toNat)) (by go_simp) (by simp)
    replace d0 := kca hb2 d0
    replace d1 := kca hb2 d1
    replace f0' := kfa hb2 f0' hz
    replace f1' := kfa hb2 f1' hz
    replace hB := (hB.alloc (by omega) _).trans (hb2.mono (by simp; omega))
    clear hb2
    go_wp2_with fail
    refine bodyPost_ret (v := seatV v (colI T[T.size - 1].toNat)) (by simp [results, Tryz.results117, go_sem, d0, d1, f0', f1']) rfl ?_
    exact ⟨rfl, (hB.setCell (by simp) _).setCell (by simp) _⟩
  · rw [if_neg hq]
    have hne := str_ne hq
    clear hq
    go_enter Tryz.func117, Tryz.ntmps117
    go_wp2_with fail
    refine (HP.out _).mono ?_
    rintro e w1 ⟨rfl, hb1⟩
    have hz : w.heap.size < w1.heap.size := by have := hb1.size; simp at this; omega
    have hB : Below w.heap.size w w1 := ((Below.refl _ _).alloc (Nat.le_refl _) _).trans (hb1.mono (by simp))
    have d0 := kc hb1 (b := w.heap.size) (i := 0) (v := .int .i64 0) (by go_simp) (by simp)
    have d1 := kc hb1 (b := w.heap.size) (i := 1) (v := .int .i64 0) (by go_simp) (by simp)
    have f0' := kf hb1 (b := w.heap.size) (i := 0) (by go_simp) (by simp)
    have f1' := kf hb1 (b := w.heap.size) (i := 1) (by go_simp) (by simp)
    clear hb1
    go_wp2_with fail
    refine (HC.out _ _).mono ?_
    rintro e w2 ⟨rfl, rfl⟩
    go_wp2_with fail
    refine (HT.out _).mono ?_
    rintro e w2 ⟨rfl, hb2⟩
    have hz2 : w1.heap.size < w2.heap.size := by have := hb2.size; simp at this; omega
    have e0 := kc hb2 (b := w1.heap.size) (i := 0) (v := .int .i64 v) (by go_simp) (by simp)
    have e1 := kc hb2 (b := w1.heap.size) (i := 1) (v := .int .i64 (colI s[s.size - 1].toNat)) (by go_simp) (by simp)
    replace d0 := kca hb2 d0
    replace d1 := kca hb2 d1
    replace f0' := kfa hb2 f0' hz
    replace f1' := kfa hb2 f1' hz
    replace hB := (hB.alloc (by omega) _).trans (hb2.mono (by simp; omega))
    clear hb2
    go_wp2_with fail
    refine bodyPost_ret (v := seatV 0 0) (by simp [results, Tryz.results117, go_sem, d0, d1, f0', f1']) rfl ?_
    exact ⟨rfl, (hB.setCell (by simp) _).setCell (by simp) _⟩
end Go.Proofs.YtihlilihipcfaaaGreatDoor
namespace Go.Proofs.YtihlilihipcfaaaGreatDoor
open Go.ChangeShapes Go.WideShapes Go.ChangeAt Go.RowKit Go.ChangeMaps
set_option maxRecDepth 10000
set_option linter.unusedSimpArgs false
set_option linter.unusedVariables false

/-- A seat and a code, as a value. -/
abbrev seatOutV (x : Int × Int × Int) : Value := .agg #[.int .i64 x.1, .int .i64 x.2.1, .int .i64 x.2.2]
end Go.Proofs.YtihlilihipcfaaaGreatDoor
namespace Go.Proofs.YtihlilihipcfaaaGreatDoor

def isDig (c : UInt8) : Bool := decide (48 ≤ c.toNat ∧ c.toNat ≤ 57)
def stepV (n : Int) (c : UInt8) : Int := 10 * n + ((c.toNat : Int) - 48)
def numV (l : List UInt8) : Int := l.foldl stepV 0
/-- A number of at most nine digits without a needless nought; -1: it is none. -/
def numI (l : List UInt8) : Int := if l.length < 1 ∨ 9 < l.length ∨ (1 < l.length ∧ l.head? = some 48) then -1 else if l.all isDig = true then numV l else -1

theorem numV_snoc (l : List UInt8) (c : UInt8) : numV (l ++ [c]) = 10 * numV l + ((c.toNat : Int) - 48) := by simp [numV, stepV]
theorem numV_bound' : ∀ (r : List UInt8), r.reverse.all isDig = true → 0 ≤ numV r.reverse ∧ numV r.reverse < 10 ^ r.length
  | [], _ => by simp [numV]
  | c :: r, h => by
    rw [List.reverse_cons, List.all_append] at h
    simp only [List.all_cons, List.all_nil, Bool.and_true, Bool.and_eq_true] at h
    have h1 := numV_bound' r h.1
    have h2 : 48 ≤ c.toNat ∧ c.toNat ≤ 57 := by simpa [isDig] using h.2
    rw [List.reverse_cons, numV_snoc, List.length_cons, Int.pow_succ]
    omega
theorem numV_bound (l : List UInt8) (h : l.all isDig = true) : 0 ≤ numV l ∧ numV l < 10 ^ l.length := by
  have := numV_bound' l.reverse (by rw [List.reverse_reverse]; exact h)
  rw [List.reverse_reverse, List.length_reverse] at this
  exact this
theorem pow10_le {n m : Nat} (h : n ≤ m) : (10 : Int) ^ n ≤ 10 ^ m := by
  have := Nat.pow_le_pow_right (show 0 < 10 by omega) h
  have h2 : ((10 ^ n : Nat) : Int) ≤ ((10 ^ m : Nat) : Int) := by omega
  simpa using h2
theorem numV_nine {l : List UInt8} (h : l.all isDig = true) (hl : l.length ≤ 9) : 0 ≤ numV l ∧ numV l < 1000000000 := by
  have h1 := numV_bound l h
  have h2 := pow10_le hl
  have e : (10 : Int) ^ 9 = 1000000000 := by decide
  omega
theorem numI_bound (l : List UInt8) : -1 ≤ numI l ∧ numI l < 1000000000 := by
  unfold numI
  split
  · omega
  · split
    · rename_i h1 h2
      have := numV_nine h2 (by omega)
      omega
    · omega

theorem digit_isDig {n : Nat} (h : n < 10) : isDig (UInt8.ofNat (48 + n)) = true := by
  have e : (UInt8.ofNat (48 + n)).toNat = 48 + n := by rw [UInt8.toNat_ofNat']; exact Nat.mod_eq_of_lt (by omega)
  unfold isDig
  rw [e]
  simp; omega
theorem digit_val {n : Nat} (h : n < 10) : (((UInt8.ofNat (48 + n)).toNat : Int)) - 48 = n := by
  have e : (UInt8.ofNat (48 + n)).toNat = 48 + n := by rw [UInt8.toNat_ofNat']; exact Nat.mod_eq_of_lt (by omega)
  rw [e]; omega
theorem dec_props (u : Nat) : (Lib.decDigits u).all isDig = true ∧ numV (Lib.decDigits u) = u ∧ 1 ≤ (Lib.decDigits u).length ∧ (0 < u → (Lib.decDigits u).head? ≠ some 48) := by
  induction u using Nat.strongRecOn with
  | _ u ih =>
    by_cases h : u < 10
    · have d1 := digit_isDig h
      have d2 := digit_val h
      rw [Lib.decDigits, dif_pos h]
      generalize UInt8.ofNat (48 + u) = b at *
      refine ⟨by simp [d1], by simp only [numV, stepV, List.foldl_cons, List.foldl_nil]; omega, by simp, fun hu => ?_⟩
      simp only [List.head?_cons, ne_eq, Option.some.injEq]
      rintro rfl
      have e3 : ((48 : UInt8).toNat : Int) = 48 := rfl
      omega
    · obtain ⟨h1, h2, h3, h4⟩ := ih (u / 10) (by omega)
      have d1 := digit_isDig (show u % 10 < 10 by omega)
      have d2 := digit_val (show u % 10 < 10 by omega)
      rw [Lib.decDigits, dif_neg h]
      generalize UInt8.ofNat (48 + u % 10) = b at *
      refine ⟨by simp [h1, d1], ?_, by simp, fun hu => ?_⟩
      · rw [numV_snoc, h2]; omega
      · cases hd : Lib.decDigits (u / 10) with
        | nil => rw [hd] at h3; simp at h3
        | cons a r =>
          rw [hd] at h4
          simpa using h4 (by omega)
theorem nDig_ge (u : Nat) (h : ¬ u < 10) : 10 ^ (Lib.nDigits u - 1) ≤ u := by
  induction u using Nat.strongRecOn with
  | _ u ih =>
    rw [Lib.nDigits_big h]
    by_cases h2 : u / 10 < 10
    · rw [Lib.nDigits_small h2]; simp; omega
    · have := ih (u / 10) (by omega) h2
      have hp := Lib.nDigits_pos (u / 10)
      obtain ⟨k, hk⟩ : ∃ k, Lib.nDigits (u / 10) = k + 1 := ⟨Lib.nDigits (u / 10) - 1, by omega⟩
      rw [hk] at this ⊢
      simp only [Nat.add_sub_cancel] at this ⊢
      rw [Nat.pow_succ]
      omega
/-- A number of at most nine digits comes back from its digits. -/
theorem numI_dec {u : Nat} (h : u < 1000000000) : numI (Lib.decDigits u) = u := by
  obtain ⟨h1, h2, h3, h4⟩ := dec_props u
  have hlen : (Lib.decDigits u).length ≤ 9 := by
    rw [Lib.decDigits_length]
    by_cases hu : u < 10
    · rw [Lib.nDigits_small hu]; omega
    · refine Nat.le_of_not_lt fun hlt => ?_
      have hp := Lib.lt_pow_nDigits u
      obtain ⟨k, hk⟩ : ∃ k, Lib.nDigits u = k + 10 := ⟨Lib.nDigits u - 10, by omega⟩
      have := nDig_ge u hu
      rw [hk] at this
      have h9 : 10 ^ 9 ≤ 10 ^ (k + 9) := Nat.pow_le_pow_right (by omega) (by omega)
      have e9 : 10 ^ 9 = 1000000000 := by decide
      have e10 : k + 10 - 1 = k + 9 := by omega
      rw [e10] at this
      omega
  unfold numI
  rw [if_neg ?_, if_pos h1, h2]
  rintro (h5 | h5 | ⟨h5, h6⟩)
  · omega
  · omega
  · by_cases hu : 0 < u
    · exact h4 hu h6
    · obtain rfl : u = 0 := by omega
      rw [Lib.decDigits, dif_pos (by omega)] at h5
      simp at h5
end Go.Proofs.YtihlilihipcfaaaGreatDoor
