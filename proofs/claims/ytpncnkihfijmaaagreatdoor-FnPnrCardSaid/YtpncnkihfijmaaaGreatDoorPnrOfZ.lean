/-
  impl.pnrOf: what some words say: the booking, wherever these are a booking's.
-/
import Derived.Test.YtpncnkihfijmaaaGreatDoorM8
import Derived.Test.YtpncnkihfijmaaaGreatDoorJoinedZ
import Derived.Test.YtpncnkihfijmaaaGreatDoorM3
import Derived.Test.YtpncnkihfijmaaaGreatDoorM7
import Derived.Deep.RegionHeld3
import Derived.Deep.RegionLaw
import Derived.Deep.DeepCutAuto
namespace Go.Proofs.YtpncnkihfijmaaaGreatDoor
open Go.ChangeShapes Go.WideShapes Go.ChangeAt Go.RowKit Go.ChangeMaps
set_option maxRecDepth 10000
set_option linter.unusedSimpArgs false
set_option linter.unusedVariables false

/-- What pnrOf gives. -/
def OfGot (ws : List ByteArray) (w : World) (e : Ending) (w' : World) : Prop :=
  (∃ p A1 c1 A2 c2, e = .returned (pdV p A1 c1 A2 c2) ∧ w'.ownsRow (w.heap.size + 1) 9 1 (.slice A1 p.names.length c1) p.names.length (strsC p.names) ∧
    w'.ownsRow (w.heap.size + 1) 49 3 (.slice A2 p.holds.length c2) p.holds.length (holdsC p.holds) ∧ FitN p ws.length ∧ (∀ q, rightB q = true → ws = wordsP q → p = q)) ∧ Below w.heap.size w w'

theorem bc {B : Nat} {w1 W : World} (h : Below B w1 W) (hB : B ≤ w1.heap.size := by exact Nat.le_refl _) : Below B w1 W ∧ (∀ b o, b < B → W.cell? ⟨b, o, none⟩ = w1.cell? ⟨b, o, none⟩) ∧ B ≤ W.heap.size :=
  ⟨h, fun b o hb => h.cell (p := ⟨b, o, none⟩) hb, Nat.le_trans hB h.size⟩
theorem cchain {W : World} {g b i : Nat} {v v0 v1 v2 v3 v4 v5 v6 : Value} (h : W.cell? ⟨b, i, none⟩ = some v) (hne : b ≠ g) :
    (((((((W.setCell ⟨g, 0, none⟩ v0).setCell ⟨g, 1, none⟩ v1).setCell ⟨g, 2, none⟩ v2).setCell ⟨g, 3, none⟩ v3).setCell ⟨g, 4, none⟩ v4).setCell ⟨g, 5, none⟩ v5).setCell ⟨g, 6, none⟩ v6).cell? ⟨b, i, none⟩ = some v := by
  have e : ∀ (X : World) (k : Nat) (u : Value), (X.setCell ⟨g, k, none⟩ u).cell? ⟨b, i, none⟩ = X.cell? ⟨b, i, none⟩ := fun X k u => World.cell?_setCell_other X _ _ u (fun e => hne (by cases e; rfl))
  rw [e, e, e, e, e, e, e]
  exact h
/-- A new block filled in at once. -/
theorem kra {W : World} {o o' : Obj} {b i : Nat} {v : Value} (h : (W.alloc o).cell? ⟨b, i, none⟩ = some v) (hb : b < W.heap.size) : (W.alloc o').cell? ⟨b, i, none⟩ = some v := by
  rw [World.cell?_alloc_old W o' ⟨b, i, none⟩ (Nat.ne_of_lt hb), ← World.cell?_alloc_old W o ⟨b, i, none⟩ (Nat.ne_of_lt hb)]
  exact h
theorem below_realloc {W w : World} {o o' : Obj} {B : Nat} (h : Below B w (W.alloc o)) (hB : B ≤ W.heap.size) : Below B w (W.alloc o') :=
  ⟨h.os, h.tape, h.output, by have := h.size; simpa using this, fun k hk => by rw [Below.heap_alloc W o' k (by omega), ← Below.heap_alloc W o k (by omega)]; exact h.block k hk⟩
theorem block_realloc {W : World} {o o' : Obj} {g : Nat} {t : TypeId} {cs : Array Value} (h : Block (W.alloc o) g t cs) (hg : g < W.heap.size) : Block (W.alloc o') g t cs := by
  unfold Block at *
  rw [Below.heap_alloc W o' g hg, ← Below.heap_alloc W o g hg]
  exact h
theorem ofst_new {w W : World} {n1 n2 n3 : Int} {lv : Bool} (hB : Below w.heap.size w W) (Z : Block W w.heap.size 40 zeroP) :
    OSt w W.heap.size ⟨n1, n2, n3, [], [], lv, 0⟩ none 0 none 0 (W.alloc (.cells #[.int .i64 n1, .int .i64 n2, .int .i64 n3, .slice none 0 0, .slice none 0 0, .bool lv, .int .i64 0] 40)) :=
  ⟨⟨Block.new W _ _, ⟨rfl, .inl ⟨rfl, rfl⟩⟩, ⟨rfl, .inl ⟨rfl, rfl⟩⟩⟩, Z.alloc _, hB.alloc hB.size _, Z.lt⟩
theorem ofst_fill {w W : World} {g : Nat} {n1 n2 n3 : Int} {lv : Bool} (hB : Below w.heap.size w W) (Z : Block W w.heap.size 40 zeroP) (hA : Block W g 40 zeroP) (hg : w.heap.size < g) :
    OSt w g ⟨n1, n2, n3, [], [], lv, 0⟩ none 0 none 0 (((((((W.setCell ⟨g, 0, none⟩ (.int .i64 n1)).setCell ⟨g, 1, none⟩ (.int .i64 n2)).setCell ⟨g, 2, none⟩ (.int .i64 n3)).setCell ⟨g, 3, none⟩ (.slice none 0 0)).setCell ⟨g, 4, none⟩ (.slice none 0 0)).setCell ⟨g, 5, none⟩ (.bool lv)).setCell ⟨g, 6, none⟩ (.int .i64 0)) := by
  refine ⟨⟨?_, ⟨rfl, .inl ⟨rfl, rfl⟩⟩, ⟨rfl, .inl ⟨rfl, rfl⟩⟩⟩, ?_, ?_, hg⟩
  · have := ((((((hA.set_ 0 (.int .i64 n1)).set_ 1 (.int .i64 n2)).set_ 2 (.int .i64 n3)).set_ 3 (.slice none 0 0)).set_ 4 (.slice none 0 0)).set_ 5 (.bool lv)).set_ 6 (.int .i64 0)
    simp at this
    exact this
  · iterate 7 (refine Block.far ?_ (Nat.ne_of_lt hg) _)
    exact Z
  · iterate 7 (refine Below.setCell ?_ (Nat.le_of_lt hg) _)
    exact hB
theorem wordsP_four (q : PD) : 4 ≤ (wordsP q).length := by simp [wordsP, headW]

set_option maxHeartbeats 1000000 in
theorem pnrOf_few (ws : List ByteArray) (A : Option Addr) (cap : Nat) (w : World) (hn : ws.length < 4) :
    Calls Tryz.prog 70 #[.slice A ws.length cap] w (OfGot ws w) := by
  have HQ : Hid (∀ q, rightB q = true → ws = wordsP q → (⟨0, 0, 0, [], [], false, 0⟩ : PD) = q) := fun q _ he => by
    have := wordsP_four q
    rw [← he] at this
    omega
  have HF : Hid (FitN ⟨0, 0, 0, [], [], false, 0⟩ ws.length) := ⟨Nat.zero_le _, Nat.zero_le _, fun _ h => (by cases h), fun _ h => (by cases h)⟩
  have hn' : (ws.length : Int) < 4 := by omega
  go_enter Tryz.func70, Tryz.ntmps70
  go_wp2_with fail
  refine bodyPost_ret (v := pdV ⟨0, 0, 0, [], [], false, 0⟩ none 0 none 0) (by simp [results, Tryz.results70, go_sem]) rfl ?_
  refine ⟨⟨_, none, 0, none, 0, rfl, ?_, ?_, HF.out, HQ.out⟩, by go_grown⟩
  · exact ⟨rfl, .inl ⟨rfl, rfl⟩⟩
  · exact ⟨rfl, .inl ⟨rfl, rfl⟩⟩

theorem joined_blk (a : ByteArray) (X : Nat) (w : World) (hX : Block w X 9 #[.string a]) (h : a.size ≤ 1099511627776) :
    Calls Tryz.prog 68 #[.slice (some ⟨X, 0, none⟩) 1 1] w fun e w' => e = .returned (.string a) ∧ Below w.heap.size w w' := by
  have hc : catTo [a] [a].length = a.data.toList := by simp [catTo]
  have hl : a.data.toList.length = a.size := by simp
  have := joined_any [a] X 1 w hX.lt (fun k hk => by
    rw [hX.cell k]
    match k, hk with
    | 0, _ => rfl) (by simp) (by rw [hc, hl]; exact h) (by simp)
  rw [hc] at this
  exact this
/-- What stands behind the offer. -/
def K4 (r : List ByteArray) (f1 : Int) (r' : List ByteArray) : Prop := (∃ x y s, r = x :: y :: s ∧ x = twA ∧ NumOk y f1 ∧ r' = s) ∨ ((∀ x y s, r = x :: y :: s → x ≠ twA) ∧ f1 = 0 ∧ r' = r)
def OffRel (w : World) (g : Nat) (r : List ByteArray) (n1 n2 n3 : Int) (lv : Bool) (v : Value) (W : World) : Prop :=
  ∃ f1 r' A' c', v = .slice A' r'.length c' ∧ Lies w w.heap.size 1 A' r'.length (strsC r') ∧ K4 r f1 r' ∧ (∀ x ∈ r', x.size ≤ 8000) ∧ r'.length ≤ r.length ∧ OSt w g ⟨n1, n2, n3, [], [], lv, f1⟩ none 0 none 0 W

def LoopSt (w : World) (g : Nat) (p : PD) (W : World) : Prop := ∃ A1 c1 A2 c2, OSt w g p A1 c1 A2 c2 W
def CondRel (w : World) (g : Nat) (r : List ByteArray) (n1 n2 n3 : Int) (lv : Bool) (v : Value) (W : World) : Prop :=
  ∃ bx : Bool, v = .bool bx ∧ (bx = true → ∃ x y s, r = x :: y :: s ∧ x = twA) ∧ (bx = false → ∀ x y s, r = x :: y :: s → x ≠ twA) ∧ OSt w g ⟨n1, n2, n3, [], [], lv, 0⟩ none 0 none 0 W

set_option maxHeartbeats 1000000 in
theorem placeOf_any (s : ByteArray) (w : World) (hs : s.size ≤ 8000) (hE : Env w) :
    Calls Tryz.prog 96 #[.string s] w fun e w' => e = .returned (.tuple #[.int .i64 (numF (cutA s 46)), .int .i64 (numF (cutZ s 46))]) ∧ Below w.heap.size w w' := by
  have HCut := Lib.hid (cut_any s 46 w (by omega) hE.2)
  have h1 := Nat.le_trans (cutA_size s 46) hs
  have h2 := Nat.le_trans (cutZ_size s 46) hs
  have HN1 : Hid (∀ W : World, Below w.heap.size w W → Calls Tryz.prog 95 #[.string (cutA s 46)] W fun e w' => e = .returned (.int .i64 (numF (cutA s 46))) ∧ Below W.heap.size W w') := fun W hW => numberOf_any _ W (by omega) (hE.on hW).1
  have HN2 : Hid (∀ W : World, Below w.heap.size w W → Calls Tryz.prog 95 #[.string (cutZ s 46)] W fun e w' => e = .returned (.int .i64 (numF (cutZ s 46))) ∧ Below W.heap.size W w') := fun W hW => numberOf_any _ W (by omega) (hE.on hW).1
  unfold CutGot at HCut
  clear h1 h2 hE
  generalize numF (cutA s 46) = n1 at *
  generalize numF (cutZ s 46) = n2 at *
  generalize cutA s 46 = ah at *
  generalize cutZ s 46 = al at *
  generalize cutF s 46 = af at *
  go_enter Tryz.func96, Tryz.ntmps96
  go_wp2_with fail
  refine HCut.out.mono ?_
  rintro e w1 ⟨rfl, hb1⟩
  go_wp2_with fail
  refine (HN1.out _ hb1).mono ?_
  rintro e w2 ⟨rfl, hb2⟩
  have hB2 := hb1.trans (hb2.mono hb1.size)
  go_wp2_with fail
  refine (HN2.out _ hB2).mono ?_
  rintro e w3 ⟨rfl, hb3⟩
  have hB3 := hB2.trans (hb3.mono hB2.size)
  clear hb1 hb2 hb3 hB2
  go_wp2_with fail
  go_ret2
  exact ⟨rfl, hB3⟩

set_option maxHeartbeats 8000000 in
theorem pnrOf_many (a b c d : ByteArray) (r : List ByteArray) (bn off n cap : Nat) (w : World) (hn : n = r.length + 4) (hc : n ≤ cap) (hcm : cap ≤ 100000)
    (hl : Lies w w.heap.size 1 (some ⟨bn, off, none⟩) n (strsC (a :: b :: c :: d :: r))) (hs : ∀ x ∈ a :: b :: c :: d :: r, x.size ≤ 8000) (hE : Env w) :
    Calls Tryz.prog 70 #[.slice (some ⟨bn, off, none⟩) n cap] w (OfGot (a :: b :: c :: d :: r) w) := by
  have hsa := hs a (by simp)
  have hsc := hs c (by simp)
  have hsd := hs d (by simp)
  have hsr : ∀ x ∈ r, x.size ≤ 8000 := fun x hx => hs x (by simp [hx])
  obtain ⟨A4, hsl4, hl4⟩ := slice_from w w.heap.size (some ⟨bn, off, none⟩) (a :: b :: c :: d :: r) cap 4 (by simpa [hn] using hl) (by simp) (by simp) (by simp; omega)
  have e4 : (a :: b :: c :: d :: r).drop 4 = r := rfl
  have e5 : (a :: b :: c :: d :: r).length = n := by simp [hn]
  rw [e4, e5] at hsl4
  rw [e4] at hl4
  have hcell : ∀ j x, (a :: b :: c :: d :: r)[j]? = some x → w.cell? ⟨bn, off + j, none⟩ = some (.string x) := fun j x hx => by
    obtain ⟨b', o', e, hb, hcc⟩ := hl.2 (by omega)
    cases e
    exact hcc j _ (strsC_at hx)
  have hbn : bn < w.heap.size := by
    obtain ⟨b', o', e, hb, hcc⟩ := hl.2 (by omega)
    cases e
    exact hb
  have ca := hcell 0 a rfl
  have cc := hcell 2 c rfl
  have cd := hcell 3 d rfl
  rw [Nat.add_zero] at ca
  clear hcell hl e4 e5 hs
  have HPl := Lib.hid (fun (W : World) (hW : Below w.heap.size w W) => placeOf_any a W (by omega) (hE.on hW))
  have HNf : Hid (∀ (s : ByteArray) (W : World), s.size ≤ 8000 → Below w.heap.size w W → Calls Tryz.prog 95 #[.string s] W fun e w' => e = .returned (.int .i64 (numF s)) ∧ Below W.heap.size W w') := fun s W h1 h2 => numberOf_any s W (by omega) (hE.on h2).1
  have HFin : Hid (∀ (f1 : Int) (r' : List ByteArray), K4 r f1 r' →
      ∀ q, rightB q = true → a :: b :: c :: d :: r = wordsP q → r'.foldl stepI ⟨numF (cutA a 46), numF (cutZ a 46), numF c, [], [], decide (d = lvA), f1⟩ = q) :=
    fun f1 r' hk q hq hw => parseI_text hq hw.symm (numF_ok _) (numF_ok _) (numF_ok _) r' hk
  have hlv : (d.toList == [108, 105, 118, 101]) = decide (d = lvA) := by
    have e : lvA.toList = [108, 105, 118, 101] := by rw [ByteArray.toList_eq]
    rw [← e]
    by_cases h : d = lvA
    · subst h
      rw [decide_eq_true rfl]
      exact beq_iff_eq.2 rfl
    · rw [decide_eq_false h]
      exact str_ne h
  have HN3 := Lib.hid (fun W hW => HNf.out c W hsc hW)
  generalize numF (cutA a 46) = n1 at *
  generalize numF (cutZ a 46) = n2 at *
  generalize numF c = n3 at *
  generalize decide (d = lvA) = lv at *
  have hn4 : (4 : Int) ≤ (n : Int) := by omega
  have hn2 : (2 : Int) < (n : Int) := by omega
  have hn3 : (3 : Int) < (n : Int) := by omega
  have hn5 : (0 : Int) < (n : Int) := by omega
  have HEnv := Lib.hid hE
  have HL4 := Lib.hid hl4
  have HS4 := Lib.hid hsl4
  have HSr := Lib.hid hsr
  have HLv := Lib.hid hlv
  have HLr : Hid (r.length ≤ cap - 4) := by show _ ≤ _; omega
  clear hE hl4 hsl4 hsr hlv hn hsa hsc hsd
  go_enter Tryz.func70, Tryz.ntmps70
  go_wp2_with fail
  have Z1 := Block.new w zeroP 40
  have hB1 : Below w.heap.size w (w.alloc (.cells zeroP 40)) := by go_grown
  dsimp only [zeroP] at Z1 hB1
  generalize w.alloc (.cells #[.int .i64 0, .int .i64 0, .int .i64 0, .slice none 0 0, .slice none 0 0, .bool false, .int .i64 0] 40) = w1 at *
  have hz1 : w.heap.size < w1.heap.size := Z1.lt
  replace cc := kc hB1 cc hbn
  replace cd := kc hB1 cd hbn
  go_upto_region 3 with fail
  go_cut [3] (fun v W => ∃ g, v = .pointer (some ⟨g, 0, none⟩) ∧ OSt w g ⟨0, 0, n3, [], [], lv, 0⟩ none 0 none 0 W)
  case first =>
    have hlv := HLv.out
    have hBd := hB1.drew
    have HM3 := Lib.hid (fun W (hW : Below w1.heap.size w1 W) => (HN3.out W (hB1.trans (hW.mono (Nat.le_of_lt hz1)))).mono (fun e w' h => And.intro h.1 (And.intro h.2 (hW.trans (h.2.mono hW.size)))))
    clear HN3 HNf HFin HPl HEnv HL4 HS4 HSr
    have HZ : Hid (∀ W, Below w1.heap.size w1 W → Below w.heap.size w W ∧ Block W w.heap.size 40 zeroP) := fun W hW => ⟨hB1.trans (hW.mono (Nat.le_of_lt hz1)), Z1.on hW⟩
    have hS0 : w1.heap.size ≤ w1.drew.heap.size := Nat.le_refl _
    have hB0 : Below w1.heap.size w1 w1.drew := (Below.refl _ w1).drew
    have hbn1 : bn < w1.heap.size := Nat.lt_trans hbn hz1
    have hz' : w1.heap.size ≤ w1.heap.size := Nat.le_refl _
    have hbw := Below.refl w1.heap.size w1
    go_region_held3 (fun W => W.cell? ⟨bn, off + 2, none⟩ = some (.string c) ∧ W.cell? ⟨bn, off + 3, none⟩ = some (.string d))
      (first
        | ((with_reducible refine ⟨kc hbw cc hbn1, kc hbw cd hbn1⟩); done)
        | ((with_reducible refine ⟨ka (kc hbw cc hbn1), ka (kc hbw cd hbn1)⟩); done)
        | ((with_reducible refine ⟨kd (ka (kc hbw cc hbn1)), kd (ka (kc hbw cd hbn1))⟩); done)
        | ((with_reducible refine ⟨kd (kc hbw cc hbn1), kd (kc hbw cd hbn1)⟩); done)
        | ((with_reducible refine ⟨cchain (kc hbw cc hbn1) hgA, cchain (kc hbw cd hbn1) hgA⟩); done))
      (first | (go_at_call 95; (with_reducible refine (HM3.out _ ?_).mono ?_); (first | with_reducible exact hbw | with_reducible exact hbw.drew | with_reducible exact Below.alloc hbw hz' _ | with_reducible exact Below.drew (Below.alloc hbw hz' _)); rintro e w' ⟨rfl, hb, hbw2⟩; (first | (have hA := hA.on hb; have qA := hA.cell; have fA := hA.free) | (have hA := (Block.new _ zeroP 40).on hb; have hgA := Nat.ne_of_lt (Nat.lt_of_lt_of_le hbn1 hz'); have hgB := Nat.lt_of_lt_of_le hz1 hz'; have qA := hA.cell; have fA := hA.free) | (have hA := (Block.new _ zeroP 40).drew.on hb; have hgA := Nat.ne_of_lt (Nat.lt_of_lt_of_le hbn1 hz'); have hgB := Nat.lt_of_lt_of_le hz1 hz'; have qA := hA.cell; have fA := hA.free) | skip); have hbw := hbw2; have hz' := hbw.size))
    all_goals
      have hWW := HZ.out _ hbw
      go_wp2_with fail
      go_meet
      first
        | with_reducible exact ⟨_, rfl, ofst_new hWW.1 hWW.2⟩
        | with_reducible exact ⟨_, rfl, ofst_fill hWW.1 hWW.2 hA hgB⟩
  case rest =>
    obtain ⟨g, rfl, T1⟩ := hcut
    clear hB1 Z1 hz1 cc cd HN3 HLv hn2 hn3 hn4
    have ca1 := kc T1.below ca hbn
    have hPl := Lib.hid (HPl.out _ T1.below)
    clear HPl ca
    go_upto_region 4 with fail
    go_cut [] from 24 (fun W => OSt w g ⟨n1, n2, n3, [], [], lv, 0⟩ none 0 none 0 W)
    case first =>
      go_wp2_with fail
      refine hPl.out.mono ?_
      rintro e w2 ⟨rfl, hb2⟩
      have T2 := T1.on hb2
      have q2 := T2.st.blk.cell
      have f2 := T2.st.blk.free
      have T3 := (T2.home n1).loc n2
      clear T1 hb2 ca1
      go_wp2_with fail
      go_meet
      exact T3
    have T0 := hcut
    clear hcut T1 hPl ca1 hn5
    have hrl : r.length ≤ 100000 := by have h0 : r.length ≤ cap - 4 := HLr.out; omega
    have hsl : ∀ W : World, (Instr.slice 37 (.slice (some ⟨bn, off, none⟩) n cap) (some (.int .i64 4)) none none).run Tryz.prog W = .ok (.slice A4 r.length (cap - 4)) W := HS4.out
    go_upto_region 6 with fail
    go_cut [43] from 35 (fun v W => CondRel w g r n1 n2 n3 lv v W)
    case first =>
      clear hsl
      by_cases hm : 1 < r.length
      · match r, hm with
        | x :: y :: s, _ =>
          obtain ⟨b4, o4, rfl, hb4, hc4⟩ := HL4.out.2 (by simp)
          have cx := hc4 0 _ rfl
          rw [Nat.add_zero] at cx
          have hT := T0.below
          replace cx := kc hT cx hb4
          have hxt : (x.toList == [116, 111]) = decide (x = twA) := by
            have e : twA.toList = [116, 111] := by rw [ByteArray.toList_eq]
            rw [← e]
            by_cases h : x = twA
            · subst h
              rw [decide_eq_true rfl]
              exact beq_iff_eq.2 rfl
            · rw [decide_eq_false h]
              exact str_ne h
          have HC : Hid (∀ W, OSt w g ⟨n1, n2, n3, [], [], lv, 0⟩ none 0 none 0 W → CondRel w g (x :: y :: s) n1 n2 n3 lv (.bool (decide (x = twA))) W) := fun W hW =>
            ⟨_, rfl, fun h => ⟨x, y, s, rfl, of_decide_eq_true h⟩, fun h x' y' s' e => by cases e; exact of_decide_eq_false h, hW⟩
          have HT := Lib.hid T0
          generalize hk : (x :: y :: s).length = k at *
          have hk2 : (1 : Int) < (k : Int) := by rw [← hk]; simp; omega
          have hk3 : (0 : Int) < (k : Int) := by omega
          generalize decide (x = twA) = bx at *
          clear hk hc4 hT T0
          go_wp2_with fail
          go_meet
          exact HC.out _ HT.out
      · have hm' : ¬ (1 : Int) < (r.length : Int) := by omega
        have HC : Hid (∀ W, OSt w g ⟨n1, n2, n3, [], [], lv, 0⟩ none 0 none 0 W → CondRel w g r n1 n2 n3 lv (.bool false) W) := fun W hW =>
          ⟨_, rfl, (fun h => (by cases h)), (fun h x' y' s' e => (by subst e; simp at hm)), hW⟩
        have HT := Lib.hid T0
        clear T0
        go_wp2_with fail
        go_meet
        exact HC.out _ HT.out
    case rest =>
      obtain ⟨bx, rfl, hyes, hno, T1⟩ := hcut
      clear T0
      have HY := Lib.hid hyes
      have HO := Lib.hid hno
      clear hyes hno hsl
      go_upto_if 43 with fail
      go_cut [0] from 44 (fun v W => OffRel w g r n1 n2 n3 lv v W)
      case first =>
        cases bx
        · have HC : Hid (∀ W, OSt w g ⟨n1, n2, n3, [], [], lv, 0⟩ none 0 none 0 W → OffRel w g r n1 n2 n3 lv (.slice A4 r.length (cap - 4)) W) := fun W hW =>
            ⟨0, r, A4, _, rfl, HL4.out, .inr ⟨HO.out rfl, rfl, rfl⟩, HSr.out, Nat.le_refl _, hW⟩
          have HT := Lib.hid T1
          clear T1
          go_wp2_with fail
          go_meet
          exact HC.out _ HT.out
        · obtain ⟨x, y, s, rfl, rfl⟩ := HY.out rfl
          obtain ⟨b4, o4, hA4, hb4, hc4⟩ := HL4.out.2 (by simp)
          obtain ⟨A2, hsl2, hl2⟩ := slice_from w w.heap.size A4 (twA :: y :: s) (cap - 4) 2 HL4.out (by simp) (by simp) HLr.out
          subst hA4
          have cy := hc4 1 _ rfl
          replace cy := kc T1.below cy hb4
          have hy := HSr.out y (by simp)
          have hs2 : (twA :: y :: s).drop 2 = s := rfl
          rw [hs2] at hsl2 hl2
          have hsl : ∀ W : World, (Instr.slice 37 (.slice (some ⟨b4, o4, none⟩) (twA :: y :: s).length (cap - 4)) (some (.int .i64 2)) none none).run Tryz.prog W = .ok (.slice A2 s.length (cap - 4 - 2)) W := hsl2
          have HC : Hid (∀ W, OSt w g ⟨n1, n2, n3, [], [], lv, numF y⟩ none 0 none 0 W → OffRel w g (twA :: y :: s) n1 n2 n3 lv (.slice A2 s.length (cap - 4 - 2)) W) := fun W hW =>
            ⟨numF y, s, A2, _, rfl, hl2, .inl ⟨_, y, s, rfl, rfl, numF_ok y, rfl⟩, fun z hz => HSr.out z (by simp [hz]), by simp; omega, hW⟩
          have HN := Lib.hid (fun W hW => HNf.out y W hy hW)
          have HT := Lib.hid T1
          have x1 := T1.st.blk.cell
          have hTB := T1.below
          generalize numF y = n4 at *
          generalize hk : (twA :: y :: s).length = k at *
          have hk2 : (1 : Int) < (k : Int) := by rw [← hk]; simp; omega
          clear hk hc4 hsl2 hl2 hy hs2 T1
          go_wp2_with fail
          refine (HN.out _ hTB).mono ?_
          rintro e w5 ⟨rfl, hb5⟩
          have T5 := HT.out.on hb5
          have q5 := T5.st.blk.cell
          have f5 := T5.st.blk.free
          have HT6 := Lib.hid (T5.offer n4)
          clear hb5 x1 hTB cy HT T5
          go_wp2_with fail
          go_meet
          exact HC.out _ HT6.out
      case rest =>
        obtain ⟨f1, r', A', c', rfl, hl', hk4, hs', hlen, T2⟩ := hcut
        clear HS4 HL4 HSr HLr HY HO T1
        have hm : r'.length ≤ 100000 := by omega
        have HF := Lib.hid (fun q hq hw => HFin.out f1 r' hk4 q hq hw)
        have HFit : Hid (∀ k, k ≤ r'.length → FitN ((r'.take k).foldl stepI ⟨n1, n2, n3, [], [], lv, f1⟩) k) := fun k hk => by
          have h := FitN.fold (p := ⟨n1, n2, n3, [], [], lv, f1⟩) (N := 0) (r'.take k) (fun x hx => hs' x (List.mem_of_mem_take hx)) _ 0 (FitN.none_ n1 n2 n3 lv f1)
          have e : 0 + (r'.take k).length = k := by simp; omega
          rw [e] at h
          exact h
        have HLen : Hid (r'.length ≤ r.length + 4) := by show _ ≤ _; omega
        have HL := Lib.hid hl'
        have HS := Lib.hid hs'
        clear hk4 hs' hl' hlen hrl HFin
        generalize (⟨n1, n2, n3, [], [], lv, f1⟩ : PD) = p0 at *
        go_wp2_with fail
        go_loopw [53] (fun i W => ∃ k : Nat, k ≤ r'.length ∧ i = .int .i64 k ∧ LoopSt w g ((r'.take k).foldl stepI p0) W) (fun i _ => r'.length - (intOf i).toNat)
        case atStart => exact ⟨0, Nat.zero_le _, rfl, none, 0, none, 0, T2⟩
        case round =>
          clear T2
          obtain ⟨k, hk, rfl, A1, c1, A2, c2, TA⟩ := hrel
          have hfit := HFit.out k hk
          by_cases hlt : k < r'.length
          · obtain ⟨bx, ox, x, rfl, hbx, hx, cx⟩ := (HL.out.below TA.below).str hlt
            have hxs := HS.out x (List.mem_of_getElem? hx)
            have HST := Lib.hid (foldl_take_succ stepI p0 hx)
            generalize (r'.take k).foldl stepI p0 = P at *
            have HE : Hid (∀ W, Below w.heap.size w W → ErrVars W) := fun W hW => (HEnv.out.on hW).1
            have HSh : Hid (∀ W, Below w.heap.size w W → W.ShapedOpen Tryz.prog) := fun W hW => (HEnv.out.on hW).2
            obtain ⟨f1', f2', -, -⟩ := hfit
            have hPn : P.names.length + 1 ≤ 1099511627 := by omega
            have hPh : P.holds.length + 1 ≤ 1099511627 := by omega
            clear f1' f2' hx
            have HCP := Lib.hid (fun W => cutPrefix_any x 43 W)
            cases hd : headP x 43
            · have HSN : Hid ((r'.take (k + 1)).foldl stepI p0 = { P with holds := P.holds ++ [⟨cutA x 58, (seatReadT (cutZ x 58)).1, (seatReadT (cutZ x 58)).2.1⟩] }) := by rw [Hid, HST.out, stepI_seat hd]
              rw [hd] at HCP
              have hfa := Nat.le_trans (cutA_size x 58) hxs
              have hfz := Nat.le_trans (cutZ_size x 58) hxs
              have HCut := Lib.hid (fun W hW => cut_any x 58 W (by omega) (HSh.out W hW))
              unfold CutGot at HCut
              have HSR : Hid (∀ W, OSt w g P A1 c1 A2 c2 W → Calls Tryz.prog 94 #[.string (cutZ x 58)] W fun e w' => e = .returned (seatOutV (seatReadT (cutZ x 58))) ∧ Below W.heap.size W w' ∧ OSt w g P A1 c1 A2 c2 w') :=
                fun W hW => (iSeatRead_any (cutZ x 58) W (HE.out W hW.below)).mono fun e w' h => ⟨h.1, h.2, hW.on h.2⟩
              have HJ : Hid (∀ W X, OSt w g P A1 c1 A2 c2 W → Block W X 9 #[.string (cutA x 58)] → Calls Tryz.prog 68 #[.slice (some ⟨X, 0, none⟩) 1 1] W fun e w' => e = .returned (.string (cutA x 58)) ∧ Below W.heap.size W w' ∧ OSt w g P A1 c1 A2 c2 w') :=
                fun W X hW hX => (joined_blk (cutA x 58) X W hX (by omega)).mono fun e w' h => ⟨h.1, h.2, hW.on h.2⟩
              generalize tailP x 43 = tl at *
              generalize cutA x 58 = fa at *
              generalize cutZ x 58 = fz at *
              generalize cutF x 58 = ff at *
              generalize seatReadT fz = sv at *
              obtain ⟨sr, sc, se⟩ := sv
              clear hd HST HE
              obtain ⟨ph, pl, po, ns, hs, pb, pf⟩ := P
              dsimp only [seatOutV] at *
              have hfld : ∀ W : World, (Instr.field 119 (.agg #[.int .i64 sr, .int .i64 sc, .int .i64 se]) 0).run Tryz.prog W = .ok (.agg #[.int .i64 sr, .int .i64 sc]) W := fun W => by
                first | rfl | simp [go_sem, Sem.run, Instr.field, Tryz.underlying119]
              go_wp2_with (go_at_call 106; refine (HCP.out _).mono ?_; rintro e w' ⟨rfl, rfl⟩)
              refine (HCut.out _ TA.below).mono ?_
              rintro e wq ⟨rfl, hbq⟩
              have TC := TA.on hbq
              clear TA hbq
              go_upto_region 16 with fail
              have q1 := TC.st.blk.cell
              have r1 : ∀ o, (wq.alloc o).cell? ⟨g, 4, none⟩ = some (.slice A2 hs.length c2) := fun o => (TC.alloc o).st.blk.cell 4
              go_region_law (first
                | (refine step_app (c := 1) (n := hs.length) rfl _ _ 38 rfl Tryz.underlying38 info_hold rfl (by decide) (by decide) (TS.st.hs.alloc (.cells #[.string fa, .int .i64 sr, .int .i64 sc] 49)) (by simp [Act.eval, Act.put]) (lies_block (Block.new ws #[.string fa, .int .i64 sr, .int .i64 sc] 49) rfl) (by simp [Act.eval, Act.put]) (fun u hu => holdsC_one [⟨fa, sr, sc⟩] u (by simpa [holdsC, holdC] using hu)) (by omega) (by have := TS.zero.lt; simp; omega) ?_; intro A3 c3 w3 hown3 hg3; have Y := (TS.alloc (.cells #[.string fa, .int .i64 sr, .int .i64 sc] 49)).hold (x := ⟨fa, sr, sc⟩) hg3 hown3; have q3 := Y.1.cell; have f3 := Y.1.free; have T3 := Y.2)
                | ((fail_if_success (have hq := TJ)); go_simp; go_wp2_with (go_at_call 68; refine (HJ.out _ _ (TC.alloc (.cells #[.string fa] 9)).drew (Block.new wq #[.string fa] 9).drew).mono ?_; rintro e wj ⟨rfl, hbj, TJ⟩; have qj := TJ.st.blk.cell))
                | ((fail_if_success (have hq := TS)); go_simp; go_wp2_with (go_at_call 94; refine (HSR.out _ TJ).mono ?_; rintro e ws ⟨rfl, hbs, TS⟩; have qs := TS.st.blk.cell; have rs : ∀ o, (ws.alloc o).cell? ⟨g, 4, none⟩ = some (.slice A2 hs.length c2) := fun o => (TS.alloc o).st.blk.cell 4)))
              all_goals
                go_wp2_with fail
                go_roundw
                case rel => exact ⟨k + 1, by omega, by go_num, by rw [HSN.out]; exact ⟨A1, c1, A3, c3, T3⟩⟩
                case measure => simp [intOf]; omega
            · have HSN : Hid ((r'.take (k + 1)).foldl stepI p0 = { P with names := P.names ++ [tailP x 43] }) := by rw [Hid, HST.out, stepI_name hd]
              rw [hd] at HCP
              have htl := Nat.le_trans (tailP_size x 43) hxs
              generalize tailP x 43 = tl at *
              clear hd HST
              obtain ⟨ph, pl, po, ns, hs, pb, pf⟩ := P
              dsimp only at *
              have q1 := TA.st.blk.cell
              have r1 : ∀ o, (wr.alloc o).cell? ⟨g, 3, none⟩ = some (.slice A1 ns.length c1) := fun o => (TA.alloc o).st.blk.cell 3
              have hzA := TA.below.size
              have HJ1 : Hid (Calls Tryz.prog 68 #[.slice (some ⟨wr.heap.size, 0, none⟩) 1 1] (wr.alloc (.cells #[.string tl] 9)).drew fun e w' => e = .returned (.string tl) ∧ Below wr.drew.heap.size wr.drew w') := joined_one tl wr.drew 9 (by omega)
              go_wp2_with (go_at_call 106; refine (HCP.out _).mono ?_; rintro e w' ⟨rfl, rfl⟩)
              go_region_law (first
                | (refine step_app (c := 1) (n := ns.length) rfl _ _ 37 rfl Tryz.underlying37 info_str rfl (by decide) (by decide) (TB.st.ns.alloc (.cells #[.string tl] 9)) (by simp [Act.eval, Act.put]) (lies_block (Block.new w2 #[.string tl] 9) rfl) (by simp [Act.eval, Act.put]) (fun u hu => strsC_one [tl] u (by simpa [strsC] using hu)) (by omega) (by have := TB.zero.lt; simp; omega) ?_; intro A3 c3 w3 hown3 hg3; have Y := (TB.alloc (.cells #[.string tl] 9)).name hg3 hown3; have q3 := Y.1.cell; have f3 := Y.1.free; have T3 := Y.2)
                | ((fail_if_success (have hq := TB)); go_simp; go_wp2_with (go_at_call 68; refine HJ1.out.mono ?_; rintro e w2 ⟨rfl, hb2⟩; have TB := TA.drew.on hb2; have q2 := TB.st.blk.cell; have r2 : ∀ o, (w2.alloc o).cell? ⟨g, 3, none⟩ = some (.slice A1 ns.length c1) := fun o => (TB.alloc o).st.blk.cell 3)))
              all_goals
                go_wp2_with fail
                go_roundw
                case rel => exact ⟨k + 1, by omega, by go_num, by rw [HSN.out]; exact ⟨A3, c3, A2, c2, T3⟩⟩
                case measure => simp [intOf]; omega
          · obtain rfl : k = r'.length := by omega
            rw [List.take_length] at TA hfit
            have HQ : Hid (∀ q, rightB q = true → a :: b :: c :: d :: r = wordsP q → r'.foldl stepI p0 = q) := HF.out
            have HFI : Hid (FitN (r'.foldl stepI p0) (a :: b :: c :: d :: r).length) := by
              obtain ⟨h1, h2, h3, h4⟩ := hfit
              have h5 : r'.length ≤ r.length + 4 := HLen.out
              exact ⟨by simp; omega, by simp; omega, h3, h4⟩
            generalize r'.foldl stepI p0 = P at *
            clear hfit HFit HL HS HF
            have q1 := TA.st.blk.cell
            have z1 := TA.zero.cell
            have z2 := TA.zero.free
            have HT := Lib.hid TA
            have hne := Nat.ne_of_lt TA.gt
            clear TA
            go_wp2_with fail
            refine bodyPost_ret (v := pdV P A1 c1 A2 c2) (by simp [results, Tryz.results70, go_sem, z1, z2]) rfl ?_
            refine ⟨⟨P, A1, c1, A2, c2, rfl, ?_, ?_, HFI.out, HQ.out⟩, ?_⟩
            · iterate 7 (refine ownsRow_setCell_below ?_ (by dsimp only; omega) _)
              exact HT.out.st.ns
            · iterate 7 (refine ownsRow_setCell_below ?_ (by dsimp only; omega) _)
              exact HT.out.st.hs
            · iterate 7 (refine Below.setCell ?_ (by dsimp only; omega) _)
              exact HT.out.below
end Go.Proofs.YtpncnkihfijmaaaGreatDoor
