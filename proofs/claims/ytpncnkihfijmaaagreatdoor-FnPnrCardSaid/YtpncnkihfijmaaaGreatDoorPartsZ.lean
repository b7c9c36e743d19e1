/-
  The parts of a booking's text, in a row that grows, in a box.
-/
import Derived.Test.YtpncnkihfijmaaaGreatDoorTextSZ
import Derived.Test.YtpncnkihfijmaaaGreatDoorM3
import Derived.Test.YtpncnkihfijmaaaGreatDoorJoinedZ
import Derived.Test.YtpncnkihfijmaaaGreatDoorEachHoldZ
import Derived.Maps.OwnIn
import Derived.Lib.BufferWrite
namespace Go.Proofs.YtpncnkihfijmaaaGreatDoor
open Go.ChangeShapes Go.WideShapes Go.ChangeAt Go.RowKit Go.ChangeMaps
set_option maxRecDepth 10000
set_option linter.unusedSimpArgs false
set_option linter.unusedVariables false

abbrev lvA : ByteArray := ⟨#[108, 105, 118, 101]⟩
abbrev gnA : ByteArray := ⟨#[103, 111, 110, 101]⟩
abbrev twA : ByteArray := ⟨#[116, 111]⟩
abbrev plA : ByteArray := ⟨#[43]⟩
set_option maxHeartbeats 400000 in
theorem stateWord_any (b : Bool) (w : World) : Calls Tryz.prog 65 #[.bool b] w fun e w' => e = .returned (.string (if b then lvA else gnA)) ∧ w = w' := by
  cases b
  · go_enter Tryz.func65, Tryz.ntmps65
    go_wp2
    go_ret
    exact ⟨rfl, rfl⟩
  · go_enter Tryz.func65, Tryz.ntmps65
    go_wp2
    go_ret
    exact ⟨rfl, rfl⟩

/-- All of a list, one behind the other. -/
def catB (xs : List ByteArray) : ByteArray := ⟨(catTo xs xs.length).toArray⟩
theorem catTo_all (xs : List ByteArray) : catTo xs xs.length = xs.flatMap fun s => s.data.toList := by rw [catTo, List.take_length]
theorem catB_data (xs : List ByteArray) : (catB xs).data.toList = xs.flatMap fun s => s.data.toList := by rw [catB, catTo_all]
theorem catB_size (xs : List ByteArray) : (catTo xs xs.length).length = (catB xs).size := by rw [catB, bsize]

def parts0 (h l o : Int) (b : Bool) : List ByteArray := [placeT h l, ofA, dgT o, spA, if b then lvA else gnA]
def parts1 (f : Int) (ps : List ByteArray) : List ByteArray := if f = 0 then ps else ps ++ [spA, twA, spA, dgT f]
def partsN (ps : List ByteArray) (l : List ByteArray) : List ByteArray := ps ++ l.flatMap fun s => [spA, plA, s]
def partsH (ps : List ByteArray) (l : List HD) : List ByteArray := ps ++ l.flatMap fun x => [spA, x.f, colA, seatT x.r x.c]
theorem cat_parts0 (h l o : Int) (b : Bool) : (catB (parts0 h l o b)) = liveT b (headT h l o) := by
  apply ba_ext
  rw [catB_data]
  cases b <;> simp [parts0, liveT, headT, placeT]
theorem cat_parts1 (f : Int) (ps : List ByteArray) : catB (parts1 f ps) = offT f (catB ps) := by
  apply ba_ext
  rw [catB_data, parts1, offT]
  split
  · rw [catB_data]
  · rw [ba_app, ba_app, catB_data]
    simp
theorem cat_partsN (ps : List ByteArray) (l : List ByteArray) : catB (partsN ps l) = l.foldl nameT (catB ps) := by
  induction l generalizing ps with
  | nil => simp [partsN]
  | cons s l ih =>
    have h1 : partsN ps (s :: l) = partsN (ps ++ [spA, plA, s]) l := by simp [partsN]
    have h2 : catB (ps ++ [spA, plA, s]) = nameT (catB ps) s := by
      apply ba_ext
      rw [catB_data, nameT, ba_app, ba_app, catB_data]
      simp
    rw [h1, ih, h2]
    rfl
theorem cat_partsH (ps : List ByteArray) (l : List HD) : catB (partsH ps l) = l.foldl holdT (catB ps) := by
  induction l generalizing ps with
  | nil => simp [partsH]
  | cons s l ih =>
    have h1 : partsH ps (s :: l) = partsH (ps ++ [spA, s.f, colA, seatT s.r s.c]) l := by simp [partsH]
    have h2 : catB (ps ++ [spA, s.f, colA, seatT s.r s.c]) = holdT (catB ps) s := by
      apply ba_ext
      rw [catB_data, holdT, ba_app, ba_app, ba_app, ba_app, catB_data]
      simp
    rw [h1, ih, h2]
    rfl
theorem partsN_succ {ps l : List ByteArray} {k : Nat} {s : ByteArray} (h : l[k]? = some s) : partsN ps (l.take (k + 1)) = partsN ps (l.take k) ++ [spA, plA, s] := by
  rw [List.take_add_one, h]
  simp [partsN]
theorem partsH_snoc (ps : List ByteArray) (l : List HD) (x : HD) : partsH ps (l ++ [x]) = partsH ps l ++ [spA, x.f, colA, seatT x.r x.c] := by
  simp [partsH]

theorem partsN_len (ps : List ByteArray) (l : List ByteArray) : (partsN ps l).length = ps.length + 3 * l.length := by
  rw [partsN, List.length_append]
  congr 1
  induction l with
  | nil => rfl
  | cons s l ih => simp only [List.flatMap_cons, List.length_append, ih, List.length_cons, List.length_nil]; omega
theorem partsH_len (ps : List ByteArray) (l : List HD) : (partsH ps l).length = ps.length + 4 * l.length := by
  rw [partsH, List.length_append]
  congr 1
  induction l with
  | nil => rfl
  | cons s l ih => simp only [List.flatMap_cons, List.length_append, ih, List.length_cons, List.length_nil]; omega

theorem info_strT : (Tryz.prog.info? 9).map (fun i => (i.zero, i.size, i.bytes)) = some (some (.string ⟨#[]⟩), 1, 16) := by kernel_rfl

/-- The parts so far, in their box; the booking in its. -/
def PBx (bk : Array Value) (w : World) (g : Nat) (ps : List ByteArray) (W : World) : Prop :=
  ∃ v, Boxed W g 37 v ∧ W.ownsRow w.heap.size 9 1 v ps.length (strsC ps) ∧ Block W w.heap.size 40 bk ∧ Below w.heap.size w W ∧ w.heap.size < g
theorem block_not_row {W : World} {B : Nat} {t e : TypeId} {cs : Array Value} (h : Block W B t cs) (hte : t ≠ e) {base size k : Nat} {v : Value} {xs : List Value} (hr : W.ownsRow base e size v k xs) : some B ≠ v.ownBlock := by
  rcases hr.2 with ⟨rfl, _⟩ | ⟨g, cap, cur, rfl, _, hgb, _⟩
  · simp [Value.ownBlock]
  · intro e'
    obtain rfl : B = g := by simpa [Value.ownBlock] using e'
    have := (show W.heap[B]? = _ from h).symm.trans hgb
    simp at this
    exact hte this.2
theorem PBx.on {bk : Array Value} {w W W' : World} {g : Nat} {ps : List ByteArray} (h : PBx bk w g ps W) (hb : Below W.heap.size W W') : PBx bk w g ps W' := by
  obtain ⟨v, h1, h2, h3, h4, h5⟩ := h
  exact ⟨v, h1.kept (row := none) (grown_of_below hb none) (by simp), ownsRow_below h2 hb, h3.on hb, h4.trans (hb.mono h4.size), h5⟩
theorem PBx.drew {bk : Array Value} {w W : World} {g : Nat} {ps : List ByteArray} (h : PBx bk w g ps W) : PBx bk w g ps W.drew := h.on (Below.refl _ W).drew
/-- Behind an append to them. -/
theorem PBx.app {bk : Array Value} {w W w1 : World} {g : Nat} {ps qs : List ByteArray} {v v' : Value} {tmp : Obj} {m : Nat} (hv : Boxed W g 37 v) (hr : W.ownsRow w.heap.size 9 1 v ps.length (strsC ps)) (hbk : Block W w.heap.size 40 bk) (hB : Below w.heap.size w W) (hg : w.heap.size < g)
    (hown : w1.ownsRow w.heap.size 9 1 v' m (strsC qs)) (hm : m = qs.length) (hgr : (W.alloc tmp).grownBy w1 v.ownBlock) : PBx bk w g qs (w1.setCell ⟨g, 0, none⟩ v') := by
  subst hm
  obtain ⟨q1, q2, q3, q4, q5⟩ := Boxed.appended hv (by decide) hr hB.size (Nat.le_of_lt hg) hown hgr
  refine ⟨v', q2, q3, ?_, hB.trans q5, hg⟩
  have b1 : Block w1 w.heap.size 40 bk := (hbk.alloc tmp).kept hgr (block_not_row hbk (by decide) hr)
  exact b1.far (by show _ ≠ g; omega) _

/-- As they are laid at first: the row, then its box; or the box, then the row; or the box long ahead. -/
theorem PBx.makeA {bk cs : Array Value} {w w1 : World} {ps : List ByteArray} {n : Nat} (hB : Below w.heap.size w w1) (X : Block w1 w.heap.size 40 bk) (hcs : cs.toList = strsC ps) (hn : n = ps.length) (hm : n ≤ 1000) :
    PBx bk w (w1.heap.size + 1) ps ((w1.alloc (.cells cs 9)).alloc (.cells #[.slice (some ⟨w1.heap.size, 0, none⟩) n n] 37)) := by
  subst hn
  have hsz : cs.size = ps.length * 1 := by
    have := congrArg List.length hcs
    simpa [strsC_length] using this
  have r := World.ownsRow_lit (base := w.heap.size) (e := 9) (size := 1) w1 cs ps.length hB.size (by unfold maxLen; omega) hsz
  rw [hcs] at r
  refine ⟨_, ?_, r.alloc _, (X.alloc _).alloc _, (hB.alloc hB.size _).alloc (by have := hB.size; simp; omega) _, by have := X.lt; omega⟩
  have := Boxed.new (w1.alloc (.cells cs 9)) 37 (.slice (some ⟨w1.heap.size, 0, none⟩) ps.length ps.length)
  simpa using this
theorem PBx.makeB {bk cs : Array Value} {w w1 : World} {ps : List ByteArray} {n : Nat} (hB : Below w.heap.size w w1) (X : Block w1 w.heap.size 40 bk) (hcs : cs.toList = strsC ps) (hn : n = ps.length) (hm : n ≤ 1000) :
    PBx bk w w1.heap.size ps ((w1.alloc (.cells #[.slice (some ⟨w1.heap.size + 1, 0, none⟩) n n] 37)).alloc (.cells cs 9)) := by
  subst hn
  have hsz : cs.size = ps.length * 1 := by
    have := congrArg List.length hcs
    simpa [strsC_length] using this
  have hB1 := hB.alloc hB.size (.cells #[.slice (some ⟨w1.heap.size + 1, 0, none⟩) ps.length ps.length] 37)
  have r := World.ownsRow_lit (base := w.heap.size) (e := 9) (size := 1) (w1.alloc (.cells #[.slice (some ⟨w1.heap.size + 1, 0, none⟩) ps.length ps.length] 37)) cs ps.length hB1.size (by unfold maxLen; omega) hsz
  rw [hcs, World.size_alloc] at r
  exact ⟨_, (Boxed.new w1 37 (.slice (some ⟨w1.heap.size + 1, 0, none⟩) ps.length ps.length)).alloc _, r, (X.alloc _).alloc _, hB1.alloc hB1.size _, X.lt⟩
theorem PBx.makeC {bk cs : Array Value} {w w1 : World} {ps : List ByteArray} {n g : Nat} (hB : Below w.heap.size w w1) (X : Block w1 w.heap.size 40 bk) (hA : Block w1 g 37 #[.slice none 0 0]) (hg : w.heap.size < g) (hcs : cs.toList = strsC ps) (hn : n = ps.length) (hm : n ≤ 1000) :
    PBx bk w g ps ((w1.setCell ⟨g, 0, none⟩ (.slice (some ⟨w1.heap.size, 0, none⟩) n n)).alloc (.cells cs 9)) := by
  subst hn
  have hsz : cs.size = ps.length * 1 := by
    have := congrArg List.length hcs
    simpa [strsC_length] using this
  have hB1 := hB.setCell (p := ⟨g, 0, none⟩) (Nat.le_of_lt hg) (.slice (some ⟨w1.heap.size, 0, none⟩) ps.length ps.length)
  have r := World.ownsRow_lit (base := w.heap.size) (e := 9) (size := 1) (w1.setCell ⟨g, 0, none⟩ (.slice (some ⟨w1.heap.size, 0, none⟩) ps.length ps.length)) cs ps.length hB1.size (by unfold maxLen; omega) hsz
  rw [hcs, World.size_setCell] at r
  refine ⟨.slice (some ⟨w1.heap.size, 0, none⟩) ps.length ps.length, ?_, r, (X.far (Nat.ne_of_lt hg) _).alloc _, hB1.alloc hB1.size _, hg⟩
  have h1 := (hA.set_ 0 (.slice (some ⟨w1.heap.size, 0, none⟩) ps.length ps.length)).alloc (.cells cs 9)
  simp at h1
  exact h1

/-- append(out, xs...), inside a fence, out of a block that was laid for it. -/
theorem wpListIn_append_blk {F : Fence} {nF : Nat} {P : Program} {ops : Array Oper} {rest : List Oper} {o : Oper} {a : Act} {Q : Exit → Act → World → Prop} {W : World} (hgd : o.guard = none) (s x : Operand) (t : TypeId) (ho : o.op = .call { callee := .builtin .append, args := #[s, x], argTypes := #[t, t] })
    {e : TypeId} {z : Value} {k bytes : Nat} (ht : P.underlying t = some (.slice e)) (hi : (P.info? e).map (fun i => (i.zero, i.size, i.bytes)) = some (some z, k, bytes)) (hzs : z.cells.size = k) (hk : 0 < k) (hby : bytes ≤ 1000)
    {base n : Nat} {v : Value} {xs : List Value} (hown : W.ownsRow base e k v n xs) (hs : a.eval s = v) {B m : Nat} (c : Nat) {A : Option Addr} {news : List Value} (hl : Lies W B k A m news) (hx : a.eval x = .slice A m c)
    (h1 : ∀ u ∈ news, u.oneCell' = true) (hlen : n + m ≤ 1099511627) (hbase : base ≤ W.heap.size)
    (h : ∀ A' c' w', w'.ownsRow base e k (.slice A' (n + m) c') (n + m) (xs ++ news) → W.grownBy w' v.ownBlock → wpListIn F nF P ops Q rest (a.put o.dst (.slice A' (n + m) c')) w') :
    wpListIn F nF P ops Q (o :: rest) a W := by
  refine wpListIn_plain hgd fun K hK => ?_
  obtain ⟨v', w', hr, h2, h3⟩ := run_append_lies (ty := o.type) (c := c) ht hi hzs hk hby hown hl h1 hlen hbase
  obtain ⟨A', c', rfl, -, -⟩ := own_form h2
  unfold Oper.wpIn
  refine ⟨by simp [Oper.about, ho, resolve, Target.leads, Sem.run_pure], ?_⟩
  rw [Oper.semAt_plain F _ _ (by rw [ho]; intro c hc'; cases hc')]
  simp [execOp, ho, resolve, invoke, builtin, hs, hx, hr, Result.andThen]
  exact hK _ _ (h A' c' w' h2 h3)
end Go.Proofs.YtpncnkihfijmaaaGreatDoor
