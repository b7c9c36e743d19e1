/-
  What every text here uses: readings carried over a call that leaves old memory as it was; small facts on values and strings. Rows of bytes that the call itself made: append, string(b), make, copy from a string. Over any program. Rows of elements of some cells each, that the call itself made: make, append, a look. Over any program. Cells and marks of old blocks, carried over calls that left all that stood. Slices that read as a list of cells, nil let in; rows of the call's own. Blocks that are known whole. Lists of texts, as cells. Lists of texts: as cells; the laws' own size, copy and equality of them. spec.l02Is: whether a number lies between two. SeatRight; the laws' own copies of seats. The laws' own equality of seats. Holds: as values, as cells, as lists; HoldLess; the laws' own copies of a hold. Lists of holds: as cells; the laws' own size, copy and equality of them. Lists of holds: the laws' own equality of two that read alike. Bookings: as values; the laws' own size, copy and equality of them. isLetter, isDigit: what they answer. WordRight: both functions answer 'wordB'. A region that draws its order, walked once in a class of worlds: those that left all that lay as it lay. Over any program. string(b) where the bytes lie in known cells. Over any program. The digits of a number. The laws' own equality of answers that bear a seat.
-/
import Derived.Test.YtpncnkihfijmaaaGreatDoorProg
import Derived.WalkKit
import Derived.ProofKit
import Derived.OpenShut
import Derived.Carry
import Derived.Lib.Hide
import Derived.WalkSpells
import Derived.Laws.CopyOwn
import Derived.Lib.LazyBuf
import Derived.Handy
import Derived.Laws.OwnMore
import Derived.RangeFuncNested
import Derived.Deep.RegionHeld3
import Derived.WalkLawsBesides
import Derived.BigQuiet
import Derived.Lib.ItoaNum
namespace Go.Proofs.YtpncnkihfijmaaaGreatDoor
open Go.ChangeShapes Go.WideShapes Go.ChangeAt Go.RowKit Go.ChangeMaps
set_option maxRecDepth 10000

theorem own : ownKnob Tryz.prog.godebug = none := by kernel_rfl
theorem laidOut : laidOutB Tryz.prog = true := by kernel_rfl

section
variable {H : Type} {enc : TypeId × Value → H} {P : Program}
theorem trodAll_below (hl : laidOutB P = true) {W W' : World} (hb : Below W.heap.size W W') :
    ∀ (ts : List TypeId) (vs : List Value) (ds : List (DataW H)) (ps : List MemPlace), (∀ t ∈ ts, P.readableRec t = true ∧ t < P.types.size) →
      DataW.TrodAll enc P W 0 (fun _ => true) true ts vs ds ps → (∀ x ∈ ps, x.block < W.heap.size) → ∀ sp : Nat → Bool, (∀ x ∈ ps, sp x.block = true) → DataW.TrodAll enc P W' 0 sp true ts vs ds ps
  | [], [], [], _, _, h, _, _, _ => h
  | t :: ts, v :: vs, d :: ds, ps, hr, h, hlt, sp, hsp => by
    obtain ⟨p, q, h1, h2, rfl⟩ := h
    refine ⟨p, q, ?_, trodAll_below hl hb ts vs ds q (fun t ht => hr t (List.mem_cons_of_mem _ ht)) h2 (fun x hx => hlt x (List.mem_append_right _ hx)) sp (fun x hx => hsp x (List.mem_append_right _ hx)), rfl⟩
    obtain ⟨h3, h4⟩ := hr t List.mem_cons_self
    exact WideElems.Trod_stays hl h3 h4 h1 (fun x hx => hb.same (hlt x (List.mem_append_left _ hx))) (fun x hx => hsp x (List.mem_append_left _ hx))
  | [], _ :: _, _, _, _, h, _, _, _ => h.elim
  | [], [], _ :: _, _, _, h, _, _, _ => h.elim
  | _ :: _, [], _, _, _, h, _, _, _ => h.elim
  | _ :: _, _ :: _, [], _, _, h, _, _, _ => h.elim

theorem trodAll_length : ∀ {W : World} {sp : Nat → Bool} {hd : Bool} {b : Nat} (ts : List TypeId) (vs : List Value) (ds : List (DataW H)) (ps : List MemPlace), DataW.TrodAll enc P W b sp hd ts vs ds ps → ds.length = ts.length
  | _, _, _, _, [], [], [], _, _ => rfl
  | _, _, _, _, _ :: ts, _ :: vs, _ :: ds, _, h => by
    obtain ⟨_, _, _, h2, _⟩ := h
    simp [trodAll_length ts vs ds _ h2]
  | _, _, _, _, [], _ :: _, _, _, h => h.elim
  | _, _, _, _, [], [], _ :: _, _, h => h.elim
  | _, _, _, _, _ :: _, [], _, _, h => h.elim
  | _, _, _, _, _ :: _, _ :: _, [], _, h => h.elim

theorem post_of_below {f : Func} {s : ChangeSpec} {apart fresh handsOn again : Bool} {W W' : World} {args : Array Value} {v : Value} {ds gs : List (DataW H)} {before pa pv : List MemPlace}
    (hW : DataW.Whole enc P f.params.toList s.vars apart W args.toList ds gs before)
    (hres : ∀ (b : Nat) (sp : Nat → Bool) (hd : Bool), DataW.TrodAll enc P W' b sp hd f.resultTypes.toList (v.resultList f.resultTypes.size) (s.fn H (ds ++ gs)).results [])
    (hargs : ∀ sp : Nat → Bool, (∀ p ∈ before, sp p.block = true) → DataW.TrodAll enc P W' 0 sp true f.params.toList args.toList (s.fn H (ds ++ gs)).args pa)
    (hvars : ∀ sp : Nat → Bool, (∀ p ∈ before, sp p.block = true) → DataW.TrodVars enc P W' sp s.vars (s.fn H (ds ++ gs)).vars pv)
    (hps : before = pa ++ pv) (hb : Below W.heap.size W W')
    (hok : ∀ (j : Nat) (t : TypeId) (r : Value), f.resultTypes[j]? = some t → (v.resultList f.resultTypes.size)[j]? = some r → Value.okWide P W' .any 0 t r) :
    s.post enc P f apart fresh handsOn again W args v W' := by
  have hlt : ∀ p ∈ before, p.block < W.heap.size := fun p hp => hW.lt p hp
  have hold : ∀ p ∈ before, (fun b => decide (b < W.heap.size)) p.block = true := fun p hp => by simpa using hlt p hp
  refine ⟨ds, gs, before, [], pa, pv, hW, hres _ _ _, hargs _ hold, hvars _ hold, World.keptBut_mono (fun p hp => ⟨hp, ?_⟩) (hb.frame (· ∈ before)), fun _ => ?_⟩
  · rw [hps, List.mem_append] at hp
    exact Or.inr hp
  · obtain ⟨_, _, _, _, _, hz, hn⟩ := hW
    refine ⟨hok, _, _, ([] ++ pa) ++ pv, ⟨[] ++ pa, pv, trodAll_append (hargs _ (fun _ _ => rfl)) (hres _ _ _), hvars _ (fun _ _ => rfl), rfl, ?_, ?_⟩, ?_⟩
    · intro b off hp
      have hin : MemPlace.cell b off ∈ before := by rw [hps]; simpa using hp
      rw [hb.frozen (hlt _ hin)]
      exact hz b off hin
    · intro ha
      have := hn ha
      rw [hps] at this
      simpa using this
    · intro p hp _
      rw [hps]
      simpa using hp
end

/-- What a law's walk owes: it returns true; below the heap's old size nothing has turned. -/
def Holds (e : Ending) (W W' : World) : Prop := e = .returned (.bool true) ∧ Below W.heap.size W W'

theorem bcell {B : Nat} {W w1 : World} (hb : Below B W w1) : (∀ b o, b < B → w1.cell? ⟨b, o, none⟩ = W.cell? ⟨b, o, none⟩) ∧ (∀ b o, b < B → w1.frozen? ⟨b, o, none⟩ = W.frozen? ⟨b, o, none⟩) :=
  ⟨fun b o h => hb.cell (p := ⟨b, o, none⟩) h, fun b o h => hb.frozen (p := ⟨b, o, none⟩) h⟩
theorem str_inj {a b : ByteArray} (h : a.toList = b.toList) : a = b := by
  rw [ByteArray.toList_eq, ByteArray.toList_eq] at h
  exact ByteArray.ext (Array.toList_inj.1 h)
theorem str_ne {a b : ByteArray} (h : ¬ a = b) : (a.toList == b.toList) = false := by
  rw [beq_eq_false_iff_ne]
  exact fun he => h (str_inj he)
/-- A cell of a block that was laid just ahead of a call which left all that stood. -/
theorem newcell {w w1 : World} {cs : Array Value} {t : TypeId} (hb : Below (w.alloc (.cells cs t)).heap.size (w.alloc (.cells cs t)) w1) (i : Nat) {v : Value} (h : cs[i]? = some v) :
    w1.cell? ⟨w.heap.size, i, none⟩ = some v ∧ w1.frozen? ⟨w.heap.size, i, none⟩ = false := by
  have hg : w1.heap[w.heap.size]? = some (.cells cs t (0, 0)) := (hb.block w.heap.size (by simp)).trans (heap_alloc_new w _)
  exact ⟨(cell_of_row _ _ _ _ _ _ hg).trans h, by simp [World.frozen?, hg]⟩
/-- .. and behind one more such call. -/
theorem cell_on {w w1 w2 : World} {i : Nat} {v : Value} (h : w1.cell? ⟨w.heap.size, i, none⟩ = some v ∧ w1.frozen? ⟨w.heap.size, i, none⟩ = false) (hb : Below w1.heap.size w1 w2) (hz : w.heap.size + 1 ≤ w1.heap.size) :
    w2.cell? ⟨w.heap.size, i, none⟩ = some v ∧ w2.frozen? ⟨w.heap.size, i, none⟩ = false :=
  ⟨(hb.cell (p := ⟨w.heap.size, i, none⟩) (show w.heap.size < w1.heap.size by omega)).trans h.1, (hb.frozen (p := ⟨w.heap.size, i, none⟩) (show w.heap.size < w1.heap.size by omega)).trans h.2⟩
theorem ret_int {k : IntKind} {a b : Int} (h : a = b) : Ending.returned (.int k a) = .returned (.int k b) := by rw [h]
theorem val_int {k : IntKind} {a b : Int} (h : a = b) : Value.int k a = .int k b := by rw [h]
theorem ret_bool {a b : Bool} (h : a = b) : Ending.returned (.bool a) = .returned (.bool b) := by rw [h]
theorem nat_of {n : Int} (h : 0 ≤ n) : ∃ k : Nat, n = k := ⟨n.toNat, by omega⟩
theorem take_snoc (s : ByteArray) (k : Nat) (h : k < s.size) : s.data.toList.take (k + 1) = s.data.toList.take k ++ [s[k]] := by
  rw [List.take_succ_eq_append_getElem (by simpa using h)]; rfl
theorem wf_i64 {n : Int} (h : (Lit.int .i64 n).wf = true) : -9223372036854775808 ≤ n ∧ n ≤ 9223372036854775807 := by
  simpa [Lit.wf, IntKind.min, IntKind.max, IntKind.signed, IntKind.bits] using h

theorem bsize (l : List UInt8) : (ByteArray.mk l.toArray).size = l.length := by simp [ByteArray.size]
theorem bappend (l : List UInt8) (s : ByteArray) : ByteArray.mk l.toArray ++ s = ⟨(l ++ s.data.toList).toArray⟩ := by
  rw [ByteArray.ext_iff]; simp
theorem bappend' (s : ByteArray) (l : List UInt8) : s ++ ByteArray.mk l.toArray = ⟨(s.data.toList ++ l).toArray⟩ := by
  rw [ByteArray.ext_iff]; simp
theorem ofNat_toNat {n : Nat} (h : n < 256) : (UInt8.ofNat n).toNat = n := by
  rw [UInt8.toNat_ofNat']; exact Nat.mod_eq_of_lt h
theorem undrew {B : Nat} {W w1 : World} (h : Below B W.drew w1) : Below B W w1 := ⟨h.os, h.tape, h.output, h.size, h.block⟩

end Go.Proofs.YtpncnkihfijmaaaGreatDoor
namespace Go.Proofs.YtpncnkihfijmaaaGreatDoor
open Go.ChangeShapes Go.WideShapes Go.ChangeAt Go.RowKit Go.ChangeMaps
set_option maxRecDepth 10000
set_option linter.unusedSimpArgs false
set_option linter.unusedVariables false

def byteV (b : UInt8) : Value := .int .u8 (b.toNat : Int)
def bytesV (l : List UInt8) : List Value := l.map byteV
theorem bytesV_length (l : List UInt8) : (bytesV l).length = l.length := List.length_map _
theorem bytesV_one (l : List UInt8) : ∀ v ∈ bytesV l, v.oneCell' = true := by
  intro v hv
  obtain ⟨b, _, rfl⟩ := List.mem_map.1 hv
  rfl
theorem bytesV_append (l m : List UInt8) : bytesV (l ++ m) = bytesV l ++ bytesV m := List.map_append

/-- The slice value v holds just the bytes l, in a row that the call itself made (from block 'base' on), or is nil. -/
def OwnB (w : World) (base : Nat) (e : TypeId) (v : Value) (l : List UInt8) : Prop := w.ownsRow base e 1 v l.length (bytesV l)

section
variable {w w' : World} {base : Nat} {e : TypeId} {v : Value} {l : List UInt8}
theorem OwnB.nil_ (w : World) (base : Nat) (e : TypeId) : OwnB w base e (.slice none 0 0) [] := ⟨by simp [bytesV], .inl ⟨rfl, rfl⟩⟩
theorem OwnB.empty_ (w : World) (e : TypeId) (hb : base ≤ w.heap.size) : OwnB (w.alloc (.cells #[] e)) base e (.slice (some ⟨w.heap.size, 0, none⟩) 0 0) [] :=
  ⟨by simp [bytesV], .inr ⟨w.heap.size, 0, #[], rfl, hb, heap_alloc_new w _, Nat.le_refl _, by unfold maxLen; omega, by simp, by simp [bytesV]⟩⟩
theorem OwnB.alloc (h : OwnB w base e v l) (o : Obj) : OwnB (w.alloc o) base e v l := World.ownsRow.alloc h o
theorem OwnB.drew (h : OwnB w base e v l) : OwnB w.drew base e v l := h
theorem OwnB.below (h : OwnB w base e v l) (hb : Below w.heap.size w w') : OwnB w' base e v l :=
  World.ownsRow.kept h (row := none) ⟨hb.os, hb.tape, hb.output, hb.size, fun k hk _ => hb.block k hk⟩ (by cases hv : v.ownBlock <;> simp)
end

theorem ownB_of_row {w : World} {base g n : Nat} {e : TypeId} {l : List UInt8} (h : Hid (w.heap[g]? = some (.cells (bytesV l).toArray e (0, 0)))) (hb : base ≤ g) (hn : l.length = n) (hl : n ≤ 1099511627776) :
    OwnB w base e (.slice (some ⟨g, 0, none⟩) n n) l := by
  subst hn
  exact ⟨by rw [bytesV_length]; omega, .inr ⟨g, l.length, (bytesV l).toArray, rfl, hb, h.out, Nat.le_refl _, by unfold maxLen; omega, by simp [bytesV_length], by
    rw [List.take_of_length_le (by simp [bytesV_length])]⟩⟩

theorem ownBlock_ge {w : World} {base : Nat} {e : TypeId} {size n : Nat} {v : Value} {xs : List Value} (h : w.ownsRow base e size v n xs) : ∀ k, v.ownBlock = some k → base ≤ k :=
  fun k hk => (h.lt k hk).1

section
variable {P : Program} {w : World} {ops : Array Oper} {rest : List Oper} {a : Act} {Q : Exit → Act → World → Prop}

/-- append of bytes that lie somewhere. -/
theorem wpList_append_bytes {dst : Option Tmp} {ty : TypeId} {pos : String} {after : Array Edge} {s x : Operand} {t e : TypeId}
    (ht : P.underlying t = some (.slice e)) (hi : (P.info? e).map (fun i => (i.zero, i.size, i.bytes)) = some (some (.int .u8 0), 1, 1))
    (base : Nat) (v : Value) (l : List UInt8) (hs : a.eval s = v) (hown : OwnB w base e v l) (ad : Addr) (m c : Nat) (news : List UInt8) (hx : a.eval x = .slice (some ad) m c) (hm : news.length = m)
    (hnews : ∀ j b, news[j]? = some b → w.cell? (ad.add j) = some (byteV b)) (hlen : l.length + m ≤ 1099511627776) (hbase : base ≤ w.heap.size)
    (h : ∀ v' w', OwnB w' base e v' (l ++ news) → Below base w w' → wpList P ops Q rest (a.put dst v') w') :
    wpList P ops Q (⟨dst, .call { callee := .builtin .append, args := #[s, x], argTypes := #[t, t] }, ty, pos, after, none⟩ :: rest) a w := by
  obtain ⟨i0, hi0, hz0, hz1, hz2⟩ := info_parts hi
  refine wpList_append_own w rfl s x t rfl base e i0 _ 1 1 ht hi0 hz0 hz1 hz2 rfl (by omega) v l.length (bytesV l) hs hown ad m c (bytesV news) hx (by rw [bytesV_length, hm]; omega) ?_ (bytesV_one _)
    (by unfold maxLen; omega) (by omega) hbase ?_
  · intro j u hu
    rw [bytesV, List.getElem?_map] at hu
    cases hb : news[j]? with
    | none => rw [hb] at hu; cases hu
    | some b =>
      rw [hb] at hu
      cases hu
      exact hnews j b hb
  · intro v' w' hown' hg _
    refine h v' w' ?_ ((Below.refl base w).grown hg hbase (ownBlock_ge hown))
    unfold OwnB
    rw [List.length_append, hm, bytesV_append]
    exact hown'

/-- append of one byte, out of the block that was laid for it. -/
theorem wpList_append_fresh {wr : World} {dst : Option Tmp} {ty : TypeId} {pos : String} {after : Array Edge} {s x : Operand} {t e e' : TypeId} {n : Int}
    (ht : P.underlying t = some (.slice e)) (hi : (P.info? e).map (fun i => (i.zero, i.size, i.bytes)) = some (some (.int .u8 0), 1, 1))
    (base : Nat) (v : Value) (l : List UInt8) (hs : a.eval s = v) (hown : OwnB wr base e v l) (b : UInt8) (hn : n = b.toNat) (hx : a.eval x = .slice (some ⟨wr.heap.size, 0, none⟩) 1 1)
    (hlen : l.length + 1 ≤ 1099511627776) (hbase : base ≤ wr.heap.size)
    (h : ∀ v' w', OwnB w' base e v' (l ++ [b]) → Below base wr w' → wpList P ops Q rest (a.put dst v') w') :
    wpList P ops Q (⟨dst, .call { callee := .builtin .append, args := #[s, x], argTypes := #[t, t] }, ty, pos, after, none⟩ :: rest) a (wr.alloc (.cells #[.int .u8 n] e')) := by
  subst hn
  refine wpList_append_bytes ht hi base v l hs (hown.alloc _) ⟨wr.heap.size, 0, none⟩ 1 1 [b] hx rfl ?_ hlen (by simp; omega) fun v' w' h1 h2 => h v' w' h1 (((Below.refl base wr).alloc hbase _).trans h2)
  intro j u hu
  match j, hu with
  | 0, hu =>
    cases hu
    exact cell_of_row _ wr.heap.size 0 _ e' (0, 0) (heap_alloc_new wr _)

/-- string(b). -/
theorem wpList_str_own {dst : Option Tmp} {ty : TypeId} {pos : String} {after : Array Edge} {x : Operand} {src dT e e' : TypeId}
    (hs : P.underlying src = some (.slice e)) (he : P.underlying e = some (.int .u8)) (hd : P.underlying dT = some .string)
    (base : Nat) (v : Value) (l : List UInt8) (hx : a.eval x = v) (hown : OwnB w base e' v l)
    (h : wpList P ops Q rest (a.put dst (.string ⟨l.toArray⟩)) w) :
    wpList P ops Q (⟨dst, .convert src dT x, ty, pos, after, none⟩ :: rest) a w := by
  have hrun : (convert src dT v).run P w = .ok (.string ⟨l.toArray⟩) w := by
    rcases hown.2 with ⟨rfl, h0⟩ | ⟨g, cap, cur, rfl, _⟩
    · obtain rfl : l = [] := List.eq_nil_of_length_eq_zero h0
      exact run_convert_bytes_nil w src e hs he 0 0 dT hd
    · refine run_convert_bytes_back w src dT e ⟨g, 0, none⟩ cap l hs he hd fun j hj => ?_
      have hc := World.ownsRow.cells hown (g := g) rfl j (byteV l[j])
      exact hc (by rw [bytesV, List.getElem?_map, List.getElem?_eq_getElem hj]; rfl)
  refine wpList_plain rfl fun K hK => ?_
  unfold Oper.wp
  simp [execOp, hx, hrun, Result.andThen]
  exact hK _ _ h

/-- make([]byte, n). -/
theorem wpList_make_bytes {dst : Option Tmp} {ty : TypeId} {pos : String} {after : Array Edge} {x y : Operand} {t e : TypeId}
    (ht : P.underlying t = some (.slice e)) (hi : (P.info? e).map (fun i => (i.zero, i.size, i.bytes)) = some (some (.int .u8 0), 1, 1))
    (base : Nat) (n : Nat) (k : Int) (hx : a.eval x = .int .i64 k) (hy : a.eval y = .int .i64 k) (hk : k = n) (hn : n ≤ 1099511627776) (hbase : base ≤ w.heap.size)
    (h : ∀ w', Hid (w'.heap[w.heap.size]? = some (.cells (bytesV (List.replicate n 0)).toArray e (0, 0))) → Below w.heap.size w w' → w.heap.size < w'.heap.size → wpList P ops Q rest (a.put dst (.slice (some ⟨w.heap.size, 0, none⟩) n n)) w') :
    wpList P ops Q (⟨dst, .makeSlice t x y, ty, pos, after, none⟩ :: rest) a w := by
  obtain ⟨i0, hi0, hz0, hz1, hz2⟩ := info_parts hi
  refine wpList_make_full w rfl x y t rfl base e i0 _ 1 ht hi0 hz0 hz1 .i64 .i64 k k n hx hy hk hk (by rw [hz2]; omega) (by unfold maxLen; omega) hbase ?_
  intro w' hown hg
  have hb : Below w.heap.size w w' := (Below.refl _ w).grown hg (Nat.le_refl _) (by simp)
  rcases hown.2 with ⟨h0, _⟩ | ⟨g, cap, cur, hv, _, hh, _, _, hsz, htk⟩
  · cases h0
  · injection hv with h1 _ h3
    injection h1 with h1
    injection h1 with h1
    subst h1
    subst h3
    refine h w' ?_ hb (Nat.lt_of_not_le fun hle => ?_)
    · have e1 : cur = (bytesV (List.replicate n 0)).toArray := by
        apply Array.toList_inj.1
        rw [List.take_of_length_le (by simp; omega)] at htk
        rw [htk]
        simp only [Value.cells, Nat.mul_one]
        rw [toList_madeCells_one]
        simp [bytesV, byteV]
      rw [← e1]
      exact hh
    · rw [Array.getElem?_eq_none hle] at hh
      cases hh

/-- copy(d, s) from a string, d a cut of a row that is known whole. -/
theorem wpList_copy_str {dst : Option Tmp} {ty : TypeId} {pos : String} {after : Array Edge} {d x : Operand} {dT sT e : TypeId}
    (hu : P.underlying dT = some (.slice e)) (hi : (P.info? e).map (fun i => (i.zero, i.size, i.bytes)) = some (some (.int .u8 0), 1, 1))
    (dp : Option Addr) (dLen dCap : Nat) (t : ByteArray) (hd : a.eval d = .slice dp dLen dCap) (hx : a.eval x = .string t)
    (g off : Nat) (cur : List UInt8) (tt : TypeId) (hg : Hid (w.heap[g]? = some (.cells (bytesV cur).toArray tt (0, 0)))) (hle : t.size ≤ dLen) (hpos : 0 < t.size → dp = some ⟨g, off, none⟩) (hfit : off + t.size ≤ cur.length)
    (B : Nat) (w0 : World) (hb : Below B w0 w) (hBg : B ≤ g)
    (h : ∀ w', Hid (w'.heap[g]? = some (.cells (bytesV (splice cur off t.data.toList)).toArray tt (0, 0))) → Below B w0 w' → wpList P ops Q rest (a.put dst (.int .i64 (t.size : Int))) w') :
    wpList P ops Q (⟨dst, .call { callee := .builtin .copy, args := #[d, x], argTypes := #[dT, sT] }, ty, pos, after, none⟩ :: rest) a w := by
  obtain ⟨i0, hi0, hz0, hz1, hz2⟩ := info_parts hi
  have hts : t.data.toList.length = t.size := by simp
  have hmin : Nat.min t.size dLen = t.size := Nat.min_eq_left hle
  refine wpList_plain rfl fun K hK => ?_
  by_cases h0 : t.size = 0
  · have hnil : t.data.toList = [] := List.eq_nil_of_length_eq_zero (by omega)
    have he : t.extract 0 t.size = t := by simp
    have hrun : (Builtin.copy_ #[dT, sT] ty #[.slice dp dLen dCap, .string t]).run P w = .ok (goInt t.size) w := by
      have ha : t.data = #[] := Array.toList_inj.1 (by simpa using hnil)
      cases dp <;> simp [Builtin.copy_, run_underlying hu, Builtin.lenOf, Builtin.firstCells, sizeOf, typeInfo, hi0, hz1, hmin, he, ha, storeCells]
    have hw := h w (by rw [hnil]; simpa [splice] using hg) hb
    unfold Oper.wp
    simp [execOp, resolve, invoke, builtin, hd, hx, hrun, Result.andThen]
    exact hK _ _ hw
  · have hp := hpos (by omega)
    subst hp
    have hg' := hg.out
    have hst := run_storeCells_at P g off tt (bytesV t.data.toList) 0 (bytesV cur).toArray w hg' (by simp [bytesV_length]; omega) (bytesV_one _)
    have he : t.extract 0 t.size = t := by simp
    have hmap : (Array.map (fun b : UInt8 => Value.int .u8 (b.toNat : Int)) t.data).toList = bytesV t.data.toList := by simp [bytesV, byteV]
    have hrun : (Builtin.copy_ #[dT, sT] ty #[.slice (some ⟨g, off, none⟩) dLen dCap, .string t]).run P w =
        .ok (goInt t.size) (w.setRow g (bytesV (splice cur off t.data.toList)).toArray) := by
      have e2 : (List.take (off + 0) (bytesV cur).toArray.toList ++ bytesV t.data.toList ++ List.drop (off + 0 + (bytesV t.data.toList).length) (bytesV cur).toArray.toList) = bytesV (splice cur off t.data.toList) := by
        simp [splice, bytesV]
      rw [e2] at hst
      simp only [Builtin.copy_, Builtin.lenOf, Builtin.firstCells, sizeOf, typeInfo]
      simp [run_underlying hu, hi0, hz1, hmin, he]
      have hst' : (storeCells ⟨g, off, none⟩ (Array.map (fun b : UInt8 => Value.int .u8 (b.toNat : Int)) t.data).toList).run P w = _ := (congrArg (fun z => (storeCells ⟨g, off, none⟩ z).run P w) hmap).trans hst
      simp at hst'
      rw [List.take_of_length_le (by simp), hst']
      simp
    have hw := h (w.setRow g (bytesV (splice cur off t.data.toList)).toArray) (setRow_heap w g (bytesV cur).toArray _ tt _ hg') (hb.trans ⟨rfl, rfl, rfl, by simp [World.setRow], fun k hk => by
      simp only [World.setRow, Array.getElem?_modify]
      rw [if_neg (by omega)]⟩)
    unfold Oper.wp
    simp [execOp, resolve, invoke, builtin, hd, hx, hrun, Result.andThen]
    exact hK _ _ hw
end
end Go.Proofs.YtpncnkihfijmaaaGreatDoor
namespace Go.Proofs.YtpncnkihfijmaaaGreatDoor
open Go.ChangeShapes Go.WideShapes Go.ChangeAt Go.RowKit Go.ChangeMaps
set_option maxRecDepth 10000
set_option linter.unusedSimpArgs false
set_option linter.unusedVariables false

theorem ownBlock_from {w : World} {base : Nat} {e : TypeId} {size n : Nat} {v : Value} {xs : List Value} (h : w.ownsRow base e size v n xs) : ∀ k, v.ownBlock = some k → base ≤ k :=
  fun k hk => (h.lt k hk).1
theorem ownsRow_below {w w' : World} {base : Nat} {e : TypeId} {size n : Nat} {v : Value} {xs : List Value} (h : w.ownsRow base e size v n xs) (hb : Below w.heap.size w w') : w'.ownsRow base e size v n xs :=
  World.ownsRow.kept h (row := none) ⟨hb.os, hb.tape, hb.output, hb.size, fun k hk _ => hb.block k hk⟩ (by cases hv : v.ownBlock <;> simp)
theorem ownsRow_base {w : World} {base base' : Nat} {e : TypeId} {size n : Nat} {v : Value} {xs : List Value} (h : w.ownsRow base e size v n xs) (hle : base' ≤ base) : w.ownsRow base' e size v n xs := by
  obtain ⟨h1, h2 | ⟨g, cap, cur, hv, hb, h3⟩⟩ := h
  · exact ⟨h1, .inl h2⟩
  · exact ⟨h1, .inr ⟨g, cap, cur, hv, Nat.le_trans hle hb, h3⟩⟩

section
variable {P : Program} {w : World} {ops : Array Oper} {rest : List Oper} {a : Act} {Q : Exit → Act → World → Prop}

/-- append of one element, out of the block that was laid for it. -/
theorem wpList_append_elem {wr : World} {dst : Option Tmp} {ty : TypeId} {pos : String} {after : Array Edge} {s x : Operand} {t e e' : TypeId} {z : Value} {k bytes : Nat} {cs : Array Value}
    (ht : P.underlying t = some (.slice e)) (hi : (P.info? e).map (fun i => (i.zero, i.size, i.bytes)) = some (some z, k, bytes)) (hzs : z.cells.size = k) (hk : 0 < k) (hby : bytes ≤ 1000)
    (base : Nat) (v : Value) (n : Nat) (xs : List Value) (hs : a.eval s = v) (hown : wr.ownsRow base e k v n xs) (hx : a.eval x = .slice (some ⟨wr.heap.size, 0, none⟩) 1 1)
    (hcs : cs.size = k) (h1 : ∀ u ∈ cs.toList, u.oneCell' = true) (hlen : n + 1 ≤ 1099511627) (hbase : base ≤ wr.heap.size)
    (h : ∀ v' w', w'.ownsRow base e k v' (n + 1) (xs ++ cs.toList) → Below base wr w' → wpList P ops Q rest (a.put dst v') w') :
    wpList P ops Q (⟨dst, .call { callee := .builtin .append, args := #[s, x], argTypes := #[t, t] }, ty, pos, after, none⟩ :: rest) a (wr.alloc (.cells cs e')) := by
  obtain ⟨i0, hi0, hz0, hz1, hz2⟩ := info_parts hi
  have hb : (n + 1) * bytes ≤ 140737488355328 := Nat.le_trans (Nat.mul_le_mul_left _ hby) (by omega)
  refine wpList_append_own (wr.alloc (.cells cs e')) rfl s x t rfl base e i0 z k bytes ht hi0 hz0 hz1 hz2 hzs hk v n xs hs (hown.alloc _) ⟨wr.heap.size, 0, none⟩ 1 1 cs.toList hx (by simp [hcs]) ?_ h1 (by unfold maxLen; omega) hb (by simp; omega) ?_
  · intro j u hu
    have hadd : ((⟨wr.heap.size, 0, none⟩ : Addr).add j) = ⟨wr.heap.size, j, none⟩ := by unfold Addr.add; split <;> simp_all
    rw [hadd, cell_of_row _ wr.heap.size j cs e' (0, 0) (heap_alloc_new wr _)]
    simpa using hu
  · intro v' w' hown' hg _
    exact h v' w' hown' (((Below.refl base wr).alloc hbase _).trans ((Below.refl base _).grown hg (by simp; omega) (ownBlock_from hown)))

/-- make([]T, 0, n). -/
theorem wpList_make_room {dst : Option Tmp} {ty : TypeId} {pos : String} {after : Array Edge} {x y : Operand} {t e : TypeId} {z : Value} {k bytes : Nat}
    (ht : P.underlying t = some (.slice e)) (hi : (P.info? e).map (fun i => (i.zero, i.size, i.bytes)) = some (some z, k, bytes)) (hby : bytes ≤ 1000)
    (n : Nat) (c : Int) (hx : a.eval x = .int .i64 0) (hy : a.eval y = .int .i64 c) (hc : c = n) (hn : n ≤ 1099511627)
    (h : ∀ v w', w'.ownsRow w.heap.size e k v 0 [] → Below w.heap.size w w' → wpList P ops Q rest (a.put dst v) w') :
    wpList P ops Q (⟨dst, .makeSlice t x y, ty, pos, after, none⟩ :: rest) a w := by
  obtain ⟨i0, hi0, hz0, hz1, hz2⟩ := info_parts hi
  have hb : i0.bytes * n ≤ 281474976710656 := by rw [hz2]; exact Nat.le_trans (Nat.mul_le_mul_right _ hby) (by omega)
  refine wpList_make_own w rfl x y t rfl w.heap.size e i0 z k ht hi0 hz0 hz1 .i64 .i64 c n hx hy hc hb (by unfold maxLen; omega) (Nat.le_refl _) ?_
  intro w' hown hg
  exact h _ w' hown ((Below.refl _ w).grown hg (Nat.le_refl _) (by simp))
end

/-- A row that holds something: where it lies, and its cells. -/
theorem row_at {w : World} {base : Nat} {e : TypeId} {k n : Nat} {v : Value} {xs : List Value} (h : w.ownsRow base e k v n xs) (hn : 0 < n) :
    ∃ g cap, v = .slice (some ⟨g, 0, none⟩) n cap ∧ base ≤ g ∧ n ≤ cap ∧ cap ≤ maxLen ∧ g < w.heap.size ∧ ∀ j u, xs[j]? = some u → w.cell? ⟨g, j, none⟩ = some u := by
  obtain ⟨h1, h2 | ⟨g, cap, cur, rfl, hb, hg, hnc, hcm, hcs, htk⟩⟩ := h
  · omega
  · refine ⟨g, cap, rfl, hb, hnc, hcm, (Array.getElem?_eq_some_iff.1 hg).1, fun j u hu => ?_⟩
    rw [cell_of_row w g j cur e (0, 0) hg]
    rw [← htk, List.getElem?_take] at hu
    split at hu
    · simpa using hu
    · cases hu
end Go.Proofs.YtpncnkihfijmaaaGreatDoor
namespace Go.Proofs.YtpncnkihfijmaaaGreatDoor
open Go.ChangeShapes Go.WideShapes Go.ChangeAt Go.RowKit Go.ChangeMaps
set_option maxRecDepth 10000

/-- A cell of an old block reads on behind a call that left all that stood. -/
theorem kc {n : Nat} {W w1 : World} (hb : Below n W w1) {b i : Nat} {v : Value} (h : W.cell? ⟨b, i, none⟩ = some v) (hlt : b < n) : w1.cell? ⟨b, i, none⟩ = some v :=
  (hb.cell (p := ⟨b, i, none⟩) hlt).trans h

theorem kf {n : Nat} {W w1 : World} (hb : Below n W w1) {b i : Nat} (h : W.frozen? ⟨b, i, none⟩ = false) (hlt : b < n) : w1.frozen? ⟨b, i, none⟩ = false :=
  (hb.frozen (p := ⟨b, i, none⟩) hlt).trans h

theorem bstep {n : Nat} {w W W' : World} (hb : Below W.heap.size W W') (h : Below n w W) (hz : n ≤ W.heap.size) : Below n w W' := h.trans (hb.mono hz)
theorem zstep {n : Nat} {W W' : World} (hb : Below W.heap.size W W') (h : n ≤ W.heap.size) : n ≤ W'.heap.size := Nat.le_trans h hb.size
/-- .. and behind a new block and a call. -/
theorem kca {W w1 : World} {o : Obj} (hb : Below (W.alloc o).heap.size (W.alloc o) w1) {b i : Nat} {v : Value} (h : W.cell? ⟨b, i, none⟩ = some v) : w1.cell? ⟨b, i, none⟩ = some v := by
  have hlt := World.block_lt_of_cell? W ⟨b, i, none⟩ h
  exact kc hb ((World.cell?_alloc_old W o ⟨b, i, none⟩ (Nat.ne_of_lt hlt)).trans h) (by simp; exact Nat.lt_succ_of_lt hlt)
theorem kfa {W w1 : World} {o : Obj} (hb : Below (W.alloc o).heap.size (W.alloc o) w1) {b i : Nat} (h : W.frozen? ⟨b, i, none⟩ = false) (hlt : b < W.heap.size) : w1.frozen? ⟨b, i, none⟩ = false :=
  kf hb ((World.frozen?_alloc_old W o ⟨b, i, none⟩ (Nat.ne_of_lt hlt)).trans h) (by simp; exact Nat.lt_succ_of_lt hlt)
/-- A cell behind a new block; behind a draw. -/
theorem ka {W : World} {o : Obj} {b i : Nat} {v : Value} (h : W.cell? ⟨b, i, none⟩ = some v) : (W.alloc o).cell? ⟨b, i, none⟩ = some v :=
  (World.cell?_alloc_old W o ⟨b, i, none⟩ (Nat.ne_of_lt (World.block_lt_of_cell? W ⟨b, i, none⟩ h))).trans h
theorem kd {W : World} {a : Addr} {v : Value} (h : W.cell? a = some v) : W.drew.cell? a = some v := h
end Go.Proofs.YtpncnkihfijmaaaGreatDoor
namespace Go.Proofs.YtpncnkihfijmaaaGreatDoor
open Go.ChangeShapes Go.WideShapes Go.ChangeAt Go.RowKit Go.ChangeMaps
set_option maxRecDepth 10000
set_option linter.unusedSimpArgs false
set_option linter.unusedVariables false

/-- The slice at A, of n elements of k cells each, reads as the cells xs, all below block B. -/
def Lies (w : World) (B k : Nat) (A : Option Addr) (n : Nat) (xs : List Value) : Prop :=
  xs.length = n * k ∧ (0 < n → ∃ b off, A = some ⟨b, off, none⟩ ∧ b < B ∧ ∀ j u, xs[j]? = some u → w.cell? ⟨b, off + j, none⟩ = some u)

section
variable {w w' : World} {B B' k n : Nat} {A : Option Addr} {xs : List Value}
theorem Lies.none_ : Lies w B k A 0 [] := ⟨by simp, fun h => absurd h (by omega)⟩
theorem Lies.below (h : Lies w B k A n xs) (hb : Below B w w') : Lies w' B k A n xs :=
  ⟨h.1, fun hn => by
    obtain ⟨b, off, e, hlt, hc⟩ := h.2 hn
    exact ⟨b, off, e, hlt, fun j u hu => (hb.cell (p := ⟨b, off + j, none⟩) hlt).trans (hc j u hu)⟩⟩
theorem Lies.mono (h : Lies w B k A n xs) (hB : B ≤ B') : Lies w B' k A n xs :=
  ⟨h.1, fun hn => by
    obtain ⟨b, off, e, hlt, hc⟩ := h.2 hn
    exact ⟨b, off, e, by omega, hc⟩⟩
theorem Lies.drew (h : Lies w B k A n xs) : Lies w.drew B k A n xs := h
theorem Lies.alloc (h : Lies w w.heap.size k A n xs) (o : Obj) : Lies (w.alloc o) (w.alloc o).heap.size k A n xs :=
  (h.below ((Below.refl _ w).alloc (Nat.le_refl _) o)).mono (by simp)
/-- .. behind a call that left all that lay. -/
theorem Lies.on (h : Lies w w.heap.size k A n xs) (hb : Below w.heap.size w w') : Lies w' w'.heap.size k A n xs := (h.below hb).mono hb.size
theorem Lies.own {base : Nat} {e : TypeId} {c : Nat} (h : w.ownsRow base e k (.slice A n c) n xs) : Lies w w.heap.size k A n xs := by
  refine ⟨h.1, fun hn => ?_⟩
  obtain ⟨g, cap, hv, _, _, _, hlt, hc⟩ := row_at h hn
  injection hv with hv
  subst hv
  exact ⟨g, 0, rfl, hlt, fun j u hu => by rw [Nat.zero_add]; exact hc j u hu⟩
end

/-- What a row of one's own looks like. -/
theorem own_form {w : World} {base : Nat} {e : TypeId} {k n : Nat} {v : Value} {xs : List Value} (h : w.ownsRow base e k v n xs) :
    ∃ A cap, v = .slice A n cap ∧ n ≤ cap ∧ cap ≤ maxLen := by
  rcases h.2 with ⟨rfl, rfl⟩ | ⟨g, cap, cur, rfl, _, _, h1, h2, _⟩
  · exact ⟨none, 0, rfl, Nat.le_refl _, Nat.zero_le _⟩
  · exact ⟨_, cap, rfl, h1, h2⟩

/-- A row of one's own behind writes to another block, or to none. -/
theorem own_grown {w w' : World} {base : Nat} {e : TypeId} {k n : Nat} {v : Value} {xs : List Value} {row : Option Nat} (h : w.ownsRow base e k v n xs) (hg : w.grownBy w' row) (hne : ∀ g, v.ownBlock = some g → row ≠ some g) : w'.ownsRow base e k v n xs := by
  refine h.kept hg ?_
  cases hv : v.ownBlock with
  | none => exact .inl rfl
  | some g => exact .inr fun he => hne g hv (by rw [← he])

theorem grown_of_below {w w' : World} (h : Below w.heap.size w w') (row : Option Nat) : w.grownBy w' row :=
  ⟨h.os, h.tape, h.output, h.size, fun k hk _ => h.block k hk⟩

theorem below_of_grown {B : Nat} {w w' : World} {row : Option Nat} (hg : w.grownBy w' row) (hB : B ≤ w.heap.size) (hr : ∀ g, row = some g → B ≤ g) : Below B w w' :=
  (Below.refl B w).grown hg hB hr

/-- A reading of old memory behind writes to a block that lies further on, or to none. -/
theorem Lies.grown {w w' : World} {B k n : Nat} {A : Option Addr} {xs : List Value} {row : Option Nat} (h : Lies w B k A n xs) (hg : w.grownBy w' row) (hB : B ≤ w.heap.size) (hr : ∀ g, row = some g → B ≤ g) : Lies w' B k A n xs :=
  h.below (below_of_grown hg hB hr)

section
variable {P : Program} {w : World} {ops : Array Oper} {rest : List Oper} {a : Act} {Q : Exit → Act → World → Prop}
/-- make([]T, n). -/
theorem wpList_make_rows {dst : Option Tmp} {ty : TypeId} {pos : String} {after : Array Edge} {x y : Operand} {t e : TypeId} {z : Value} {k bytes : Nat}
    (ht : P.underlying t = some (.slice e)) (hi : (P.info? e).map (fun i => (i.zero, i.size, i.bytes)) = some (some z, k, bytes)) (hby : bytes ≤ 1000)
    (n : Nat) (c : Int) (hx : a.eval x = .int .i64 c) (hy : a.eval y = .int .i64 c) (hc : c = n) (hn : n ≤ 1099511627)
    (h : ∀ zs w', w'.ownsRow w.heap.size e k (.slice (some ⟨w.heap.size, 0, none⟩) n n) n zs → zs.length = n * k → Below w.heap.size w w' → w.heap.size < w'.heap.size → wpList P ops Q rest (a.put dst (.slice (some ⟨w.heap.size, 0, none⟩) n n)) w') :
    wpList P ops Q (⟨dst, .makeSlice t x y, ty, pos, after, none⟩ :: rest) a w := by
  obtain ⟨i0, hi0, hz0, hz1, hz2⟩ := info_parts hi
  have hb : i0.bytes * n ≤ 281474976710656 := by rw [hz2]; exact Nat.le_trans (Nat.mul_le_mul_right _ hby) (by omega)
  refine wpList_make_full w rfl x y t rfl w.heap.size e i0 z k ht hi0 hz0 hz1 .i64 .i64 c c n hx hy hc hc hb (by unfold maxLen; omega) (Nat.le_refl _) ?_
  intro w' hown hg
  have hlt : w.heap.size < w'.heap.size := by
    rcases hown.2 with ⟨h0, _⟩ | ⟨g, cap, cur, hv, _, hh, _⟩
    · cases h0
    · injection hv with h1 _ h3
      injection h1 with h1
      injection h1 with h1
      subst h1
      exact (Array.getElem?_eq_some_iff.1 hh).1
  exact h _ w' hown hown.1 ((Below.refl _ w).grown hg (Nat.le_refl _) (by simp)) hlt
end

/-- Three cells stored, one behind the other. -/
theorem set_three (xs rest : List Value) (m : Nat) (hx : xs.length = m) (hr : 3 ≤ rest.length) (u0 u1 u2 : Value) :
    (((xs ++ rest).set m u0).set (m + 1) u1).set (m + 2) u2 = xs ++ [u0, u1, u2] ++ rest.drop 3 := by
  match rest, hr with
  | a :: b :: c :: r, _ =>
    subst hx
    rw [List.set_append_right _ _ (Nat.le_refl _), List.set_append_right _ _ (by omega), List.set_append_right _ _ (by omega)]
    have e1 : xs.length + 1 - xs.length = 1 := by omega
    have e2 : xs.length + 2 - xs.length = 2 := by omega
    rw [Nat.sub_self, e1, e2]
    simp
theorem set_one (xs rest : List Value) (m : Nat) (hx : xs.length = m) (hr : 1 ≤ rest.length) (u0 : Value) :
    (xs ++ rest).set m u0 = xs ++ [u0] ++ rest.drop 1 := by
  match rest, hr with
  | a :: r, _ =>
    subst hx
    rw [List.set_append_right _ _ (Nat.le_refl _), Nat.sub_self]
    simp
end Go.Proofs.YtpncnkihfijmaaaGreatDoor
namespace Go.Proofs.YtpncnkihfijmaaaGreatDoor
open Go.ChangeShapes Go.WideShapes Go.ChangeAt Go.RowKit Go.ChangeMaps
set_option maxRecDepth 10000
set_option linter.unusedSimpArgs false
set_option linter.unusedVariables false

/-- Block g holds just those cells. -/
def Block (W : World) (g : Nat) (t : TypeId) (cs : Array Value) : Prop := W.heap[g]? = some (.cells cs t (0, 0))
section
variable {W W' : World} {g n : Nat} {t : TypeId} {cs : Array Value}
theorem Block.drew (h : Block W g t cs) : Block W.drew g t cs := h
theorem Block.lt (h : Block W g t cs) : g < W.heap.size := (Array.getElem?_eq_some_iff.1 h).1
theorem Block.below (h : Block W g t cs) (hb : Below n W W') (hg : g < n) : Block W' g t cs := (hb.block g hg).trans h
theorem Block.on (h : Block W g t cs) (hb : Below W.heap.size W W') : Block W' g t cs := h.below hb h.lt
theorem Block.cell (h : Block W g t cs) (i : Nat) : W.cell? ⟨g, i, none⟩ = cs[i]? := cell_of_row W g i cs t (0, 0) h
theorem Block.free (h : Block W g t cs) (i : Nat) : W.frozen? ⟨g, i, none⟩ = false := frozen_of_row W g i cs t h
theorem Block.new (w : World) (cs : Array Value) (t : TypeId) : Block (w.alloc (.cells cs t)) w.heap.size t cs := heap_alloc_new w _
theorem Block.alloc (h : Block W g t cs) (o : Obj) : Block (W.alloc o) g t cs := (Below.heap_alloc W o g h.lt).trans h
theorem Block.kept {row : Option Nat} (h : Block W g t cs) (hg : W.grownBy W' row) (hne : some g ≠ row) : Block W' g t cs := (hg.block g h.lt hne).trans h
theorem Block.far (h : Block W g t cs) {p : Addr} (hp : g ≠ p.block) (u : Value) : Block (W.setCell p u) g t cs := (Below.heap_setCell W p u g hp).trans h
theorem Block.set_ (h : Block W g t cs) (i : Nat) (u : Value) : Block (W.setCell ⟨g, i, none⟩ u) g t (cs.setIfInBounds i u) := heap_setCell_same W g i cs t u h
end
/-- That a block holds those cells speaks of cells alone. -/
theorem block_own {β : Type} (g : Nat) (t : TypeId) (f : β → Array Value) : Own (fun s W => Block W g t (f s)) := fun s X Y row hs hg hrow =>
  hs.kept hg (fun e' => by obtain ⟨o, ho, hc⟩ := hrow g e'.symm; rw [show X.heap[g]? = _ from hs] at ho; cases ho; cases hc)
/-- A call that left all that lay leaves what is no cells. -/
theorem keeps_of_below {W W' : World} (hb : Below W.heap.size W W') (B : Nat) : KeepsFrom B W W' := KeepsFrom.of_grownBy (row := none) (grown_of_below hb none) (fun j e => by cases e)

end Go.Proofs.YtpncnkihfijmaaaGreatDoor
namespace Go.Proofs.YtpncnkihfijmaaaGreatDoor
open Go.ChangeShapes Go.WideShapes Go.ChangeAt Go.RowKit Go.ChangeMaps
set_option maxRecDepth 10000
set_option linter.unusedSimpArgs false
set_option linter.unusedVariables false

def strsC (l : List ByteArray) : List Value := l.map Value.string
theorem strsC_length (l : List ByteArray) : (strsC l).length = l.length := List.length_map _
theorem strsC_append (l m : List ByteArray) : strsC (l ++ m) = strsC l ++ strsC m := List.map_append
theorem strsC_one (l : List ByteArray) : ∀ v ∈ strsC l, v.oneCell' = true := by
  intro v hv
  obtain ⟨x, _, rfl⟩ := List.mem_map.1 hv
  rfl
theorem strsC_at {l : List ByteArray} {i : Nat} {s : ByteArray} (h : l[i]? = some s) : (strsC l)[i]? = some (.string s) := by
  rw [strsC, List.getElem?_map, h]; rfl
theorem strsC_take_succ {l : List ByteArray} {k : Nat} {s : ByteArray} (h : l[k]? = some s) : strsC (l.take (k + 1)) = strsC (l.take k) ++ [.string s] := by
  rw [List.take_add_one, h, strsC_append]
  rfl
theorem Lies.str {w : World} {B n i : Nat} {A : Option Addr} {l : List ByteArray} (h : Lies w B 1 A n (strsC l)) (hi : i < n) :
    ∃ b off s, A = some ⟨b, off, none⟩ ∧ b < B ∧ l[i]? = some s ∧ w.cell? ⟨b, off + i, none⟩ = some (.string s) := by
  obtain ⟨hl, h2⟩ := h
  obtain ⟨b, off, rfl, hb, hc⟩ := h2 (by omega)
  rw [strsC_length] at hl
  have hil : i < l.length := by omega
  exact ⟨b, off, l[i], rfl, hb, List.getElem?_eq_getElem hil, hc _ _ (strsC_at (List.getElem?_eq_getElem hil))⟩

theorem info_str : (Tryz.prog.info? 9).map (fun i => (i.zero, i.size, i.bytes)) = some (some (.string ⟨#[]⟩), 1, 16) := by kernel_rfl
end Go.Proofs.YtpncnkihfijmaaaGreatDoor
namespace Go.Proofs.YtpncnkihfijmaaaGreatDoor
open Go.ChangeShapes Go.WideShapes Go.ChangeAt Go.RowKit Go.ChangeMaps
set_option maxRecDepth 10000
set_option linter.unusedSimpArgs false
set_option linter.unusedVariables false

/-- How many letters. -/
def totS (l : List ByteArray) : Nat := (l.map fun x => x.size).sum
theorem totS_take_succ {l : List ByteArray} {k : Nat} {x : ByteArray} (h : l[k]? = some x) : totS (l.take (k + 1)) = totS (l.take k) + x.size := by
  rw [List.take_add_one, h]
  simp [totS]
theorem totS_take_le (l : List ByteArray) (k : Nat) : totS (l.take k) ≤ totS l := by
  have e : totS l = totS (l.take k) + totS (l.drop k) := by
    unfold totS
    rw [← List.sum_append, ← List.map_append, List.take_append_drop]
  omega
/-- What is left of n behind a list. -/
def leftS (n : Int) (l : List ByteArray) : Int := if n < (l.length + totS l : Nat) then -1 else n - (l.length + totS l : Nat)

end Go.Proofs.YtpncnkihfijmaaaGreatDoor
namespace Go.Proofs.YtpncnkihfijmaaaGreatDoor
open Go.ChangeShapes Go.WideShapes Go.ChangeAt Go.RowKit Go.ChangeMaps
set_option maxRecDepth 10000
set_option linter.unusedSimpArgs false

def inB (n lo hi : Int) : Bool := decide (lo ≤ n) && decide (n ≤ hi)

set_option maxHeartbeats 400000 in
theorem l02Is_any (n lo hi : Int) (w : World) : Calls Tryz.prog 58 #[.int .i64 n, .int .i64 lo, .int .i64 hi] w fun e w' => e = .returned (.bool (inB n lo hi)) ∧ w = w' := by
  go_enter Tryz.func58, Tryz.ntmps58
  go_wp2
  all_goals go_ret
  · have h : lo ≤ n := by assumption
    exact ⟨ret_bool (by simp [inB, h]), rfl⟩
  · have h : n < lo := by assumption
    exact ⟨ret_bool (by simp [inB]; omega), rfl⟩
end Go.Proofs.YtpncnkihfijmaaaGreatDoor
namespace Go.Proofs.YtpncnkihfijmaaaGreatDoor
open Go.ChangeShapes Go.WideShapes Go.ChangeAt Go.RowKit Go.ChangeMaps
set_option maxRecDepth 10000
set_option linter.unusedSimpArgs false

def seatB (r c : Int) : Bool := decide (1 ≤ r ∧ r ≤ 20 ∧ 0 ≤ c ∧ c ≤ 5)
/-- A seat, as a value. -/
abbrev seatV (r c : Int) : Value := .agg #[.int .i64 r, .int .i64 c]

set_option maxHeartbeats 400000 in
theorem iSeatRight_any (r c : Int) (w : World) : Calls Tryz.prog 105 #[seatV r c] w fun e w' => e = .returned (.bool (seatB r c)) ∧ Below w.heap.size w w' := by
  go_enter Tryz.func105, Tryz.ntmps105
  go_wp2
  all_goals
    go_ret
    refine ⟨ret_bool ?_, by go_grown⟩
    rw [Bool.eq_iff_iff]
    simp [seatB]
    try omega


theorem inB_yes {n lo hi : Int} (h : lo ≤ n ∧ n ≤ hi) : inB n lo hi = true := by simp [inB, h.1, h.2]
theorem inB_no {n lo hi : Int} (h : ¬ (lo ≤ n ∧ n ≤ hi)) : inB n lo hi = false := by simp [inB]; omega

set_option maxHeartbeats 400000 in
theorem sSeatRight_any (r c : Int) (w : World) : Calls Tryz.prog 62 #[seatV r c] w fun e w' => e = .returned (.bool (seatB r c)) ∧ Below w.heap.size w w' := by
  by_cases hr : 1 ≤ r ∧ r ≤ 20
  · have h1 := inB_yes hr
    go_enter Tryz.func62, Tryz.ntmps62
    go_wp2_with (go_at_call 58; refine (l02Is_any _ _ _ _).mono ?_; rintro e w' ⟨rfl, rfl⟩)
    go_ret
    refine ⟨ret_bool ?_, by go_grown⟩
    rw [Bool.eq_iff_iff]
    simp [inB, seatB]
    omega
  · have h1 := inB_no hr
    go_enter Tryz.func62, Tryz.ntmps62
    go_wp2_with (go_at_call 58; refine (l02Is_any _ _ _ _).mono ?_; rintro e w' ⟨rfl, rfl⟩)
    go_ret
    refine ⟨ret_bool ?_, by go_grown⟩
    rw [Bool.eq_iff_iff]
    simp [seatB]
    try omega

end Go.Proofs.YtpncnkihfijmaaaGreatDoor
namespace Go.Proofs.YtpncnkihfijmaaaGreatDoor
open Go.ChangeShapes Go.WideShapes Go.ChangeAt Go.RowKit Go.ChangeMaps
set_option maxRecDepth 10000
set_option linter.unusedSimpArgs false
set_option linter.unusedVariables false

set_option maxHeartbeats 400000 in
theorem eqSeat_same (r c : Int) (w : World) : Calls Tryz.prog 97 #[seatV r c, seatV r c] w fun e w' => e = .returned (.bool true) ∧ Below w.heap.size w w' := by
  go_enter Tryz.func97, Tryz.ntmps97
  go_wp2
  go_ret
  exact ⟨rfl, by go_grown⟩
end Go.Proofs.YtpncnkihfijmaaaGreatDoor
namespace Go.Proofs.YtpncnkihfijmaaaGreatDoor
open Go.ChangeShapes Go.WideShapes Go.ChangeAt Go.RowKit Go.ChangeMaps
set_option maxRecDepth 10000
set_option linter.unusedSimpArgs false
set_option linter.unusedVariables false

structure HD where
  f : ByteArray
  r : Int
  c : Int
deriving DecidableEq

/-- A hold, as a value. -/
abbrev holdV (f : ByteArray) (r c : Int) : Value := .agg #[.string f, .int .i64 r, .int .i64 c]

/-- Which of two stands ahead. -/
def lessB (a b : HD) : Bool := if a.f = b.f then (if a.r = b.r then decide (a.c < b.c) else decide (a.r < b.r)) else Op.bytesLess a.f.toList b.f.toList

set_option maxHeartbeats 400000 in
theorem iHoldLess_any (a b : HD) (w : World) : Calls Tryz.prog 31 #[holdV a.f a.r a.c, holdV b.f b.r b.c] w fun e w' => e = .returned (.bool (lessB a b)) ∧ Below w.heap.size w w' := by
  obtain ⟨af, ar, ac⟩ := a
  obtain ⟨bf, br, bc⟩ := b
  dsimp only
  by_cases hf : af = bf
  · subst hf
    by_cases hr : ar = br
    · subst hr
      go_enter Tryz.func31, Tryz.ntmps31
      go_wp2
      go_ret
      exact ⟨ret_bool (by simp [lessB]), by go_grown⟩
    · have hr' : (ar == br) = false := beq_eq_false_iff_ne.2 hr
      go_enter Tryz.func31, Tryz.ntmps31
      go_wp2
      go_ret
      exact ⟨ret_bool (by simp [lessB, hr]), by go_grown⟩
  · have hf' := str_ne hf
    go_enter Tryz.func31, Tryz.ntmps31
    go_wp2
    go_ret
    exact ⟨ret_bool (by simp [lessB, hf]), by go_grown⟩

set_option maxHeartbeats 400000 in
theorem sHoldLess_any (a b : HD) (w : World) : Calls Tryz.prog 32 #[holdV a.f a.r a.c, holdV b.f b.r b.c] w fun e w' => e = .returned (.bool (lessB a b)) ∧ Below w.heap.size w w' := by
  obtain ⟨af, ar, ac⟩ := a
  obtain ⟨bf, br, bc⟩ := b
  dsimp only
  by_cases hf : af = bf
  · subst hf
    by_cases hr : ar = br
    · subst hr
      go_enter Tryz.func32, Tryz.ntmps32
      go_wp2
      go_ret
      exact ⟨ret_bool (by simp [lessB]), by go_grown⟩
    · have hr' : (ar == br) = false := beq_eq_false_iff_ne.2 hr
      go_enter Tryz.func32, Tryz.ntmps32
      go_wp2
      go_ret
      exact ⟨ret_bool (by simp [lessB, hr]), by go_grown⟩
  · have hf' := str_ne hf
    go_enter Tryz.func32, Tryz.ntmps32
    go_wp2
    go_ret
    exact ⟨ret_bool (by simp [lessB, hf]), by go_grown⟩
end Go.Proofs.YtpncnkihfijmaaaGreatDoor
namespace Go.Proofs.YtpncnkihfijmaaaGreatDoor
open Go.ChangeShapes Go.WideShapes Go.ChangeAt Go.RowKit Go.ChangeMaps
set_option maxRecDepth 10000
set_option linter.unusedSimpArgs false
set_option linter.unusedVariables false

def holdC (x : HD) : List Value := [.string x.f, .int .i64 x.r, .int .i64 x.c]
def holdsC (l : List HD) : List Value := l.flatMap holdC
theorem holdsC_length (l : List HD) : (holdsC l).length = l.length * 3 := by
  induction l with
  | nil => rfl
  | cons x l ih => simp [holdsC, holdC] at ih ⊢; omega
theorem holdsC_append (l m : List HD) : holdsC (l ++ m) = holdsC l ++ holdsC m := by simp [holdsC]
theorem holdsC_one (l : List HD) : ∀ v ∈ holdsC l, v.oneCell' = true := by
  intro v hv
  obtain ⟨x, _, hx⟩ := List.mem_flatMap.1 hv
  simp only [holdC, List.mem_cons, List.not_mem_nil, or_false] at hx
  rcases hx with rfl | rfl | rfl <;> rfl
theorem holdsC_at {x : HD} : ∀ (l : List HD) (i : Nat), l[i]? = some x → (holdsC l)[i * 3]? = some (.string x.f) ∧ (holdsC l)[i * 3 + 1]? = some (.int .i64 x.r) ∧ (holdsC l)[i * 3 + 2]? = some (.int .i64 x.c)
  | [], i, h => by simp at h
  | y :: l, 0, h => by
    simp only [List.getElem?_cons_zero, Option.some.injEq] at h
    subst h
    exact ⟨rfl, rfl, rfl⟩
  | y :: l, i + 1, h => by
    have e : holdsC (y :: l) = .string y.f :: .int .i64 y.r :: .int .i64 y.c :: holdsC l := rfl
    obtain ⟨h1, h2, h3⟩ := holdsC_at l i (by simpa using h)
    have e0 : (i + 1) * 3 = i * 3 + 1 + 1 + 1 := by omega
    rw [e, e0]
    exact ⟨by simpa using h1, by simpa using h2, by simpa using h3⟩
theorem holdsC_take_succ {l : List HD} {k : Nat} {x : HD} (h : l[k]? = some x) : holdsC (l.take (k + 1)) = holdsC (l.take k) ++ holdC x := by
  rw [List.take_add_one, h, holdsC_append]
  rfl
theorem take_len_le {α : Type} {l : List α} {k : Nat} (h : k ≤ l.length) : (l.take k).length = k := by simp; omega

theorem Lies.hold {w : World} {B n i : Nat} {A : Option Addr} {l : List HD} (h : Lies w B 3 A n (holdsC l)) (hi : i < n) :
    ∃ b off x, A = some ⟨b, off, none⟩ ∧ b < B ∧ l[i]? = some x ∧ w.cell? ⟨b, off + i * 3, none⟩ = some (.string x.f) ∧ w.cell? ⟨b, off + i * 3 + 1, none⟩ = some (.int .i64 x.r) ∧ w.cell? ⟨b, off + i * 3 + 2, none⟩ = some (.int .i64 x.c) := by
  obtain ⟨hl, h2⟩ := h
  obtain ⟨b, off, rfl, hb, hc⟩ := h2 (by omega)
  rw [holdsC_length] at hl
  have hil : i < l.length := by omega
  obtain ⟨h0, h1, h2⟩ := holdsC_at l i (List.getElem?_eq_getElem hil)
  exact ⟨b, off, l[i], rfl, hb, List.getElem?_eq_getElem hil, hc _ _ h0, hc _ _ h1, hc _ _ h2⟩

/-- How many elements and letters. -/
def tot (l : List HD) : Nat := (l.map fun x => x.f.size).sum
theorem tot_take_succ {l : List HD} {k : Nat} {x : HD} (h : l[k]? = some x) : tot (l.take (k + 1)) = tot (l.take k) + x.f.size := by
  rw [List.take_add_one, h]
  simp [tot]
theorem tot_take_le (l : List HD) (k : Nat) : tot (l.take k) ≤ tot l := by
  have e : tot l = tot (l.take k) + tot (l.drop k) := by
    unfold tot
    rw [← List.sum_append, ← List.map_append, List.take_append_drop]
  omega
/-- What is left of n behind a list. -/
def leftI (n : Int) (l : List HD) : Int := if n < (l.length + tot l : Nat) then -1 else n - (l.length + tot l : Nat)

theorem info_hold : (Tryz.prog.info? 49).map (fun i => (i.zero, i.size, i.bytes)) = some (some (.agg #[.string ⟨#[]⟩, .int .i64 0, .int .i64 0]), 3, 32) := by kernel_rfl

end Go.Proofs.YtpncnkihfijmaaaGreatDoor
namespace Go.Proofs.YtpncnkihfijmaaaGreatDoor
open Go.ChangeShapes Go.WideShapes Go.ChangeAt Go.RowKit Go.ChangeMaps
set_option maxRecDepth 10000
set_option linter.unusedSimpArgs false
set_option linter.unusedVariables false

end Go.Proofs.YtpncnkihfijmaaaGreatDoor
namespace Go.Proofs.YtpncnkihfijmaaaGreatDoor
open Go.ChangeShapes Go.WideShapes Go.ChangeAt Go.RowKit Go.ChangeMaps
set_option maxRecDepth 10000
set_option linter.unusedSimpArgs false
set_option linter.unusedVariables false

structure PD where
  home : Int
  loc : Int
  owner : Int
  names : List ByteArray
  holds : List HD
  live : Bool
  offer : Int

/-- A booking, as a value. -/
abbrev pnrV (h l o : Int) (n : Nat) (A1 : Option Addr) (c1 m : Nat) (A2 : Option Addr) (c2 : Nat) (b : Bool) (f : Int) : Value :=
  .agg #[.int .i64 h, .int .i64 l, .int .i64 o, .slice A1 n c1, .slice A2 m c2, .bool b, .int .i64 f]
/-- .. of what its lists hold. -/
abbrev pdV (p : PD) (A1 : Option Addr) (c1 : Nat) (A2 : Option Addr) (c2 : Nat) : Value := pnrV p.home p.loc p.owner p.names.length A1 c1 p.holds.length A2 c2 p.live p.offer
/-- Its lists lie there. -/
def PLies (w : World) (B : Nat) (p : PD) (A1 A2 : Option Addr) : Prop := Lies w B 1 A1 p.names.length (strsC p.names) ∧ Lies w B 3 A2 p.holds.length (holdsC p.holds)
theorem PLies.below {w w' : World} {B : Nat} {p : PD} {A1 A2 : Option Addr} (h : PLies w B p A1 A2) (hb : Below B w w') : PLies w' B p A1 A2 := ⟨h.1.below hb, h.2.below hb⟩
theorem PLies.mono {w : World} {B B' : Nat} {p : PD} {A1 A2 : Option Addr} (h : PLies w B p A1 A2) (hb : B ≤ B') : PLies w B' p A1 A2 := ⟨h.1.mono hb, h.2.mono hb⟩
theorem PLies.on {w w' : World} {p : PD} {A1 A2 : Option Addr} (h : PLies w w.heap.size p A1 A2) (hb : Below w.heap.size w w') : PLies w' w'.heap.size p A1 A2 := ⟨h.1.on hb, h.2.on hb⟩
theorem PLies.drew {w : World} {B : Nat} {p : PD} {A1 A2 : Option Addr} (h : PLies w B p A1 A2) : PLies w.drew B p A1 A2 := h
theorem PLies.alloc {w : World} {p : PD} {A1 A2 : Option Addr} (h : PLies w w.heap.size p A1 A2) (o : Obj) : PLies (w.alloc o) (w.alloc o).heap.size p A1 A2 := ⟨h.1.alloc o, h.2.alloc o⟩
/-- It takes no more than it may. -/
def PFit (p : PD) : Prop := p.names.length ≤ maxLen ∧ (∀ x ∈ p.names, x.size ≤ maxLen) ∧ p.holds.length ≤ maxLen ∧ (∀ x ∈ p.holds, x.f.size ≤ maxLen)
/-- How many elements and letters a booking has. -/
def bulk (p : PD) : Nat := (p.names.length + totS p.names) + (p.holds.length + tot p.holds)
def leftP (n : Int) (p : PD) : Int := if n < (bulk p : Nat) then -1 else n - (bulk p : Nat)

theorem boxed {w w1 : World} {o : Obj} (hb : Below (w.alloc o).heap.size (w.alloc o) w1) : Below w.heap.size w w1 := ((Below.refl _ _).alloc (Nat.le_refl _) _).trans (hb.mono (by simp))

/-- What the laws' own copy of a booking is: new lists, that read alike. -/
def PnrMade (p : PD) (w : World) (e : Ending) (w' : World) : Prop :=
  ∃ (A1 : Option Addr) (c1 : Nat) (A2 : Option Addr) (c2 : Nat), e = .returned (pdV p A1 c1 A2 c2) ∧ PLies w' w'.heap.size p A1 A2 ∧ Below w.heap.size w w'
def StrsMade (l : List ByteArray) (w : World) (e : Ending) (w' : World) : Prop :=
  ∃ (A : Option Addr) (c : Nat), e = .returned (.slice A l.length c) ∧ w'.ownsRow w.heap.size 9 1 (.slice A l.length c) l.length (strsC l) ∧ Below w.heap.size w w'
def HoldsMade (l : List HD) (w : World) (e : Ending) (w' : World) : Prop :=
  ∃ (A : Option Addr) (c : Nat), e = .returned (.slice A l.length c) ∧ w'.ownsRow w.heap.size 49 3 (.slice A l.length c) l.length (holdsC l) ∧ Below w.heap.size w w'

theorem alloc3_mid (w : World) (a b c : Obj) : (((w.alloc a).alloc b).alloc c).heap[w.heap.size + 1]? = some b :=
  (Below.heap_alloc _ _ _ (by simp)).trans (by have := heap_alloc_new (w.alloc a) b; simpa using this)
theorem alloc3_last (w : World) (a b c : Obj) : (((w.alloc a).alloc b).alloc c).heap[w.heap.size + 1 + 1]? = some c := by
  have := heap_alloc_new ((w.alloc a).alloc b) c
  simpa using this

end Go.Proofs.YtpncnkihfijmaaaGreatDoor
namespace Go.Proofs.YtpncnkihfijmaaaGreatDoor
open Go.ChangeShapes Go.WideShapes Go.ChangeAt Go.RowKit Go.ChangeMaps
set_option maxRecDepth 10000

def letB (n : Int) : Bool := decide (97 ≤ n) && decide (n ≤ 122)
def digB (n : Int) : Bool := decide (48 ≤ n) && decide (n ≤ 57)
theorem letB_yes {n : Int} (h : letB n = true) : 97 ≤ n ∧ n ≤ 122 := by simpa [letB] using h
theorem letB_mk {n : Int} (h : 97 ≤ n) (h' : n ≤ 122) : letB n = true := by simp [letB, h, h']
theorem letB_lt {n : Int} (h : n < 97) : letB n = false := by simp [letB]; omega
theorem letB_gt {n : Int} (h : 122 < n) : letB n = false := by simp [letB]; omega
theorem digB_mk {n : Int} (h : 48 ≤ n) (h' : n ≤ 57) : digB n = true := by simp [digB, h, h']
theorem digB_lt {n : Int} (h : n < 48) : digB n = false := by simp [digB]; omega
theorem digB_gt {n : Int} (h : 57 < n) : digB n = false := by simp [digB]; omega

set_option maxHeartbeats 400000 in
theorem isLetter_any (n : Int) (w : World) : Calls Tryz.prog 130 #[.int .u8 n] w fun e w' => e = .returned (.bool (letB n)) ∧ w = w' := by
  go_enter Tryz.func130, Tryz.ntmps130
  go_wp2
  all_goals go_ret
  · have h : 97 ≤ n := by assumption
    exact ⟨ret_bool (by simp [letB, h]), rfl⟩
  · have h : n < 97 := by assumption
    exact ⟨ret_bool (by rw [letB_lt h]), rfl⟩

set_option maxHeartbeats 400000 in
theorem isDigit_any (n : Int) (w : World) : Calls Tryz.prog 131 #[.int .u8 n] w fun e w' => e = .returned (.bool (digB n)) ∧ w = w' := by
  go_enter Tryz.func131, Tryz.ntmps131
  go_wp2
  all_goals go_ret
  · have h : 48 ≤ n := by assumption
    exact ⟨ret_bool (by simp [digB, h]), rfl⟩
  · have h : n < 48 := by assumption
    exact ⟨ret_bool (by rw [digB_lt h]), rfl⟩

end Go.Proofs.YtpncnkihfijmaaaGreatDoor
namespace Go.Proofs.YtpncnkihfijmaaaGreatDoor
open Go.ChangeShapes Go.WideShapes Go.ChangeAt Go.RowKit Go.ChangeMaps
set_option maxRecDepth 10000
set_option linter.unusedSimpArgs false

/-- Is the byte one of a word? -/
def wdOk (c : UInt8) : Bool := letB c.toNat || digB c.toNat
/-- Are the first k bytes? -/
def wdTo (s : ByteArray) (k : Nat) : Prop := ∀ i (h : i < s.size), i < k → wdOk s[i] = true
def wordB (s : ByteArray) : Bool := decide (1 ≤ s.size ∧ s.size ≤ 8 ∧ ∀ i (h : i < s.size), wdOk s[i] = true)
theorem wordB_no {s : ByteArray} (i : Nat) (h : i < s.size) (hn : wdOk s[i] = false) : wordB s = false := by
  simp only [wordB, decide_eq_false_iff_not]
  intro hh
  rw [hh.2.2 i h] at hn
  cases hn
theorem wordB_yes {s : ByteArray} (h1 : 1 ≤ s.size) (h2 : s.size ≤ 8) (h : wdTo s s.size) : wordB s = true := by
  simp only [wordB, decide_eq_true_eq]
  exact ⟨h1, h2, fun i hi => h i hi hi⟩
theorem wordB_size {s : ByteArray} (h : s.size < 1 ∨ 8 < s.size) : wordB s = false := by
  simp only [wordB, decide_eq_false_iff_not]
  intro hh
  omega
theorem wordB_len {s : ByteArray} (h : wordB s = true) : 1 ≤ s.size ∧ s.size ≤ 8 := by
  simp only [wordB, decide_eq_true_eq] at h
  exact ⟨h.1, h.2.1⟩
theorem wdTo_succ {s : ByteArray} {k : Nat} (h : wdTo s k) (hk : k < s.size) (hc : wdOk s[k] = true) : wdTo s (k + 1) := by
  intro i hi hik
  by_cases he : i = k
  · subst he; exact hc
  · exact h i hi (by omega)

set_option maxHeartbeats 400000 in
theorem sWord_any (s : ByteArray) (w : World) (hs : s.size ≤ maxLen) : Calls Tryz.prog 61 #[.string s] w fun e w' => e = .returned (.bool (wordB s)) ∧ w = w' := by
  unfold maxLen at hs
  go_enter Tryz.func61, Tryz.ntmps61
  go_wp2
  go_loop [3] (fun i => ∃ k : Nat, k ≤ s.size ∧ i = .int .i64 k ∧ wdTo s k) (fun i => s.size - (intOf i).toNat)
  case atStart => exact ⟨0, Nat.zero_le _, rfl, fun i h hi => by omega⟩
  case round =>
    obtain ⟨k, hk, rfl, hto⟩ := hrel
    by_cases hlt : k < s.size
    · go_wp2
      all_goals first
        | (go_ret
           refine ⟨ret_bool (wordB_no k hlt ?_).symm, rfl⟩
           simp_all [wdOk, letB, digB]
           try omega)
        | (go_round
           case rel =>
             refine ⟨k + 1, by omega, by go_num, wdTo_succ hto hlt ?_⟩
             simp_all [wdOk, letB, digB]
             try omega
           case measure => simp [intOf]; omega)
    · obtain rfl : k = s.size := by omega
      by_cases h1 : 1 ≤ s.size
      · by_cases h2 : s.size ≤ 8
        · go_wp2
          go_ret
          exact ⟨ret_bool (by rw [wordB_yes h1 h2 hto]; simp; try omega), rfl⟩
        · go_wp2
          go_ret
          exact ⟨ret_bool (by rw [wordB_size (by omega)]; simp; try omega), rfl⟩
      · go_wp2
        go_ret
        exact ⟨ret_bool (by rw [wordB_size (by omega)]), rfl⟩

set_option maxHeartbeats 400000 in
theorem iWord_any (s : ByteArray) (w : World) (hs : s.size ≤ maxLen) : Calls Tryz.prog 112 #[.string s] w fun e w' => e = .returned (.bool (wordB s)) ∧ w = w' := by
  unfold maxLen at hs
  by_cases h1 : s.size < 1
  · have h0 : s.size = 0 := by omega
    go_enter Tryz.func112, Tryz.ntmps112
    go_wp2
    go_ret
    exact ⟨ret_bool (wordB_size (by omega)).symm, rfl⟩
  have h0 : ((s.size : Int) == 0) = false := by rw [beq_eq_false_iff_ne]; omega
  by_cases h2 : 8 < s.size
  · go_enter Tryz.func112, Tryz.ntmps112
    go_wp2
    go_ret
    exact ⟨ret_bool (wordB_size (by omega)).symm, rfl⟩
  go_enter Tryz.func112, Tryz.ntmps112
  go_wp2
  go_loop [3] (fun i => ∃ k : Nat, k ≤ s.size ∧ i = .int .i64 k ∧ wdTo s k) (fun i => s.size - (intOf i).toNat)
  case atStart => exact ⟨0, by omega, rfl, fun i h hi => by omega⟩
  case round =>
    obtain ⟨k, hk, rfl, hto⟩ := hrel
    by_cases hlt : k < s.size
    · go_wp2_with (first
        | (go_at_call 130; refine (isLetter_any _ _).mono ?_; rintro e w' ⟨rfl, rfl⟩)
        | (go_at_call 131; refine (isDigit_any _ _).mono ?_; rintro e w' ⟨rfl, rfl⟩))
      all_goals first
        | (go_ret
           refine ⟨ret_bool (wordB_no k hlt ?_).symm, rfl⟩
           simp_all [wdOk])
        | (go_round
           case rel =>
             refine ⟨k + 1, by omega, by go_num, wdTo_succ hto hlt ?_⟩
             simp_all [wdOk]
           case measure => simp [intOf]; omega)
    · obtain rfl : k = s.size := by omega
      go_wp2
      go_ret
      exact ⟨ret_bool (wordB_yes (by omega) (by omega) hto).symm, rfl⟩
end Go.Proofs.YtpncnkihfijmaaaGreatDoor
namespace Go.Proofs.YtpncnkihfijmaaaGreatDoor
open Go.ChangeShapes Go.WideShapes Go.ChangeAt Go.RowKit Go.ChangeMaps
set_option maxRecDepth 10000
set_option linter.unusedVariables false

/-- A world in which all that lay in w0 lies as it lay. -/
structure Cls (w0 : World) where
  W : World
  h : Below w0.heap.size w0 W

instance (w0 : World) : Inhabited (Cls w0) := ⟨⟨w0, Below.refl _ _⟩⟩

theorem wp_region_cls {P : Program} {id : Nat} {Q : Exit → Act → World → Prop} {a : Act} {w : World} {l : List Oper} (hm : P.follows .mixedOrders = true) (hB : Region.lexB .any l.toArray = true)
    (h : wpQuiet P l.toArray (fun w' => ∃ p : Cls w, w' = p.W) (fun a' => ∀ w', (∃ p : Cls w, w' = p.W) → Q .normal a' w') l a) : (Code.region id l.toArray true).wp P Q a w :=
  wp_region_quiet (C := fun w' => ∃ p : Cls w, w' = p.W) hm hB ⟨⟨w.drew, (Below.refl _ w).drew⟩, rfl⟩ (by simpa using h)

theorem Cls.call {w0 : World} {P : Program} {f : FuncId} {args : Array Value} {v : Value} {p : Cls w0} (h : Calls P f args p.W fun e w' => e = .returned v ∧ Below p.W.heap.size p.W w') :
    Calls P f args p.W fun e w'' => e = .returned v ∧ ∃ p' : Cls w0, w'' = p'.W :=
  h.mono fun _ w' ⟨he, hb⟩ => ⟨he, ⟨w', p.h.trans (hb.mono p.h.size)⟩, rfl⟩
theorem Cls.same {w0 : World} {P : Program} {f : FuncId} {args : Array Value} {v : Value} {p : Cls w0} (h : Calls P f args p.W fun e w' => e = .returned v ∧ p.W = w') :
    Calls P f args p.W fun e w'' => e = .returned v ∧ ∃ p' : Cls w0, w'' = p'.W :=
  h.mono fun _ w' ⟨he, hb⟩ => ⟨he, p, hb.symm⟩
theorem Cls.cell {w0 : World} {b i : Nat} {v : Value} (h : w0.cell? ⟨b, i, none⟩ = some v) (p : Cls w0) : p.W.cell? ⟨b, i, none⟩ = some v :=
  kc p.h h (World.block_lt_of_cell? w0 ⟨b, i, none⟩ h)
end Go.Proofs.YtpncnkihfijmaaaGreatDoor
namespace Go.Proofs.YtpncnkihfijmaaaGreatDoor
open Go.ChangeShapes Go.WideShapes Go.ChangeAt Go.RowKit Go.ChangeMaps
set_option maxRecDepth 10000
set_option linter.unusedSimpArgs false
set_option linter.unusedVariables false

section
variable {P : Program} {w : World} {ops : Array Oper} {rest : List Oper} {a : Act} {Q : Exit → Act → World → Prop}
/-- string(b) where the bytes lie somewhere. -/
theorem wpList_str_cells {dst : Option Tmp} {ty : TypeId} {pos : String} {after : Array Edge} {x : Operand} {src dT e : TypeId}
    (hs : P.underlying src = some (.slice e)) (he : P.underlying e = some (.int .u8)) (hd : P.underlying dT = some .string)
    (ad : Addr) (l : List UInt8) (n cap : Nat) (hx : a.eval x = .slice (some ad) n cap) (hn : l.length = n) (hc : ∀ j (hj : j < l.length), w.cell? (ad.add j) = some (byteV l[j]))
    (h : wpList P ops Q rest (a.put dst (.string ⟨l.toArray⟩)) w) :
    wpList P ops Q (⟨dst, .convert src dT x, ty, pos, after, none⟩ :: rest) a w := by
  subst hn
  have hrun : (convert src dT (.slice (some ad) l.length cap)).run P w = .ok (.string ⟨l.toArray⟩) w := run_convert_bytes_back w src dT e ad cap l hs he hd hc
  refine wpList_plain rfl fun K hK => ?_
  unfold Oper.wp
  simp [execOp, hx, hrun, Result.andThen]
  exact hK _ _ h
end

theorem byte_eq {x : Int} {n : Nat} (h : x = n) (hn : n < 256) : some (Value.int .u8 x) = some (byteV (UInt8.ofNat n)) := by
  rw [byteV, ofNat_toNat hn, h]

section
variable {P : Program} {w : World} {ops : Array Oper} {rest : List Oper} {a : Act} {Q : Exit → Act → World → Prop}
/-- string([]byte{b}). -/
theorem wpList_str_one {dst : Option Tmp} {ty : TypeId} {pos : String} {after : Array Edge} {x : Operand} {src dT e e' : TypeId} {y : Int}
    (hs : P.underlying src = some (.slice e)) (he : P.underlying e = some (.int .u8)) (hd : P.underlying dT = some .string)
    (b : UInt8) (hy : y = b.toNat) (hx : a.eval x = .slice (some ⟨w.heap.size, 0, none⟩) 1 1)
    (h : wpList P ops Q rest (a.put dst (.string ⟨[b].toArray⟩)) (w.alloc (.cells #[.int .u8 y] e'))) :
    wpList P ops Q (⟨dst, .convert src dT x, ty, pos, after, none⟩ :: rest) a (w.alloc (.cells #[.int .u8 y] e')) := by
  refine wpList_str_cells hs he hd ⟨w.heap.size, 0, none⟩ [b] 1 1 hx rfl (fun j hj => ?_) h
  have hadd : ((⟨w.heap.size, 0, none⟩ : Addr).add j) = ⟨w.heap.size, j, none⟩ := by unfold Addr.add; split <;> simp_all
  rw [hadd, cell_of_row _ w.heap.size j _ e' (0, 0) (heap_alloc_new w _)]
  match j, hj with
  | 0, _ => exact congrArg some (val_int hy)
/-- .. as an equation, behind a draw. -/
theorem run_str_one {P : Program} (W : World) {src dT e e' : TypeId} {y : Int} (hs : P.underlying src = some (.slice e)) (he : P.underlying e = some (.int .u8)) (hd : P.underlying dT = some .string) (b : UInt8) (hy : y = b.toNat) :
    (convert src dT (.slice (some ⟨W.heap.size, 0, none⟩) 1 1)).run P (W.alloc (.cells #[.int .u8 y] e')).drew = .ok (.string ⟨[b].toArray⟩) (W.alloc (.cells #[.int .u8 y] e')).drew := by
  refine run_convert_bytes_back (W.alloc (.cells #[.int .u8 y] e')).drew src dT e ⟨W.heap.size, 0, none⟩ 1 [b] hs he hd (fun j hj => ?_)
  have hadd : ((⟨W.heap.size, 0, none⟩ : Addr).add j) = ⟨W.heap.size, j, none⟩ := by unfold Addr.add; split <;> simp_all
  rw [hadd]
  show (W.alloc (.cells #[.int .u8 y] e')).cell? _ = _
  rw [cell_of_row _ W.heap.size j _ e' (0, 0) (heap_alloc_new W _)]
  match j, hj with
  | 0, _ => exact congrArg some (val_int hy)
end
end Go.Proofs.YtpncnkihfijmaaaGreatDoor
namespace Go.Proofs.YtpncnkihfijmaaaGreatDoor
open Go.ChangeShapes Go.WideShapes Go.ChangeAt Go.RowKit Go.ChangeMaps
set_option maxRecDepth 10000
set_option linter.unusedSimpArgs false
set_option linter.unusedVariables false

/-- The digits of a number, none of 0. -/
def decU (u : Nat) : List UInt8 := if u = 0 then [] else Lib.decDigits u
theorem decU_step {u : Nat} (h : 0 < u) (l : List UInt8) : decU u ++ l = decU (u / 10) ++ (UInt8.ofNat (48 + u % 10) :: l) := by
  rw [decU, if_neg (by omega)]
  by_cases h10 : u < 10
  · have e1 : u / 10 = 0 := by omega
    have e2 : u % 10 = u := by omega
    rw [Lib.decDigits, dif_pos h10, decU, if_pos e1, e2]
    rfl
  · rw [Lib.decDigits, dif_neg h10, decU, if_neg (by omega), List.append_assoc]
    rfl

end Go.Proofs.YtpncnkihfijmaaaGreatDoor
namespace Go.Proofs.YtpncnkihfijmaaaGreatDoor
open Go.ChangeShapes Go.WideShapes Go.ChangeAt Go.RowKit Go.ChangeMaps
set_option maxRecDepth 10000
set_option linter.unusedSimpArgs false
set_option linter.unusedVariables false

/-- A seat and a code, as a value. -/
abbrev seatOutV (x : Int × Int × Int) : Value := .agg #[.int .i64 x.1, .int .i64 x.2.1, .int .i64 x.2.2]
end Go.Proofs.YtpncnkihfijmaaaGreatDoor
