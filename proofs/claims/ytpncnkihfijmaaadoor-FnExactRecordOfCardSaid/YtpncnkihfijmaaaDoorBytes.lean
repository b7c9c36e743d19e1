/-
  Rows of bytes that the call itself made: append, string(b), make, copy from a string. Over any program.
-/
import Derived.Test.YtpncnkihfijmaaaDoorBase
import Derived.Laws.CopyOwn
import Derived.Lib.LazyBuf
namespace Go.Proofs.YtpncnkihfijmaaaDoor
open Go.ChangeShapes Go.WideShapes Go.ChangeAt Go.RowKit Go.ChangeMaps
set_option maxRecDepth 10000
set_option linter.unusedSimpArgs false
set_option linter.unusedVariables false

def byteV (b : UInt8) : Value := .int .u8 (b.toNat : Int)
def bytesV (l : List UInt8) : List Value := l.map byteV
theorem bytesV_length (l : List UInt8) : (bytesV l).length = l.length := List.length_map _
theorem bytesV_one (l : List UInt8) : ∀ v ∈ bytesV l, v.oneCell' = true := by
  intro v hv
  obtain ⟨b, _, rfl⟩ := List.mem_map.1 hv
  rfl
theorem bytesV_append (l m : List UInt8) : bytesV (l ++ m) = bytesV l ++ bytesV m := List.map_append

/-- The slice value v holds just the bytes l, in a row that the call itself made (from block 'base' on), or is nil. -/
def OwnB (w : World) (base : Nat) (e : TypeId) (v : Value) (l : List UInt8) : Prop := w.ownsRow base e 1 v l.length (bytesV l)

section
variable {w w' : World} {base : Nat} {e : TypeId} {v : Value} {l : List UInt8}
theorem OwnB.nil_ (w : World) (base : Nat) (e : TypeId) : OwnB w base e (.slice none 0 0) [] := ⟨by simp [bytesV], .inl ⟨rfl, rfl⟩⟩
theorem OwnB.empty_ (w : World) (e : TypeId) (hb : base ≤ w.heap.size) : OwnB (w.alloc (.cells #[] e)) base e (.slice (some ⟨w.heap.size, 0, none⟩) 0 0) [] :=
  ⟨by simp [bytesV], .inr ⟨w.heap.size, 0, #[], rfl, hb, heap_alloc_new w _, Nat.le_refl _, by unfold maxLen; omega, by simp, by simp [bytesV]⟩⟩
theorem OwnB.alloc (h : OwnB w base e v l) (o : Obj) : OwnB (w.alloc o) base e v l := World.ownsRow.alloc h o
theorem OwnB.drew (h : OwnB w base e v l) : OwnB w.drew base e v l := h
theorem OwnB.below (h : OwnB w base e v l) (hb : Below w.heap.size w w') : OwnB w' base e v l :=
  World.ownsRow.kept h (row := none) ⟨hb.os, hb.tape, hb.output, hb.size, fun k hk _ => hb.block k hk⟩ (by cases hv : v.ownBlock <;> simp)
end

theorem ownB_of_row {w : World} {base g n : Nat} {e : TypeId} {l : List UInt8} (h : Hid (w.heap[g]? = some (.cells (bytesV l).toArray e (0, 0)))) (hb : base ≤ g) (hn : l.length = n) (hl : n ≤ 1099511627776) :
    OwnB w base e (.slice (some ⟨g, 0, none⟩) n n) l := by
  subst hn
  exact ⟨by rw [bytesV_length]; omega, .inr ⟨g, l.length, (bytesV l).toArray, rfl, hb, h.out, Nat.le_refl _, by unfold maxLen; omega, by simp [bytesV_length], by
    rw [List.take_of_length_le (by simp [bytesV_length])]⟩⟩

theorem ownBlock_ge {w : World} {base : Nat} {e : TypeId} {size n : Nat} {v : Value} {xs : List Value} (h : w.ownsRow base e size v n xs) : ∀ k, v.ownBlock = some k → base ≤ k :=
  fun k hk => (h.lt k hk).1

section
variable {P : Program} {w : World} {ops : Array Oper} {rest : List Oper} {a : Act} {Q : Exit → Act → World → Prop}

/-- append of bytes that lie somewhere. -/
theorem wpList_append_bytes {dst : Option Tmp} {ty : TypeId} {pos : String} {after : Array Edge} {s x : Operand} {t e : TypeId}
    (ht : P.underlying t = some (.slice e)) (hi : (P.info? e).map (fun i => (i.zero, i.size, i.bytes)) = some (some (.int .u8 0), 1, 1))
    (base : Nat) (v : Value) (l : List UInt8) (hs : a.eval s = v) (hown : OwnB w base e v l) (ad : Addr) (m c : Nat) (news : List UInt8) (hx : a.eval x = .slice (some ad) m c) (hm : news.length = m)
    (hnews : ∀ j b, news[j]? = some b → w.cell? (ad.add j) = some (byteV b)) (hlen : l.length + m ≤ 1099511627776) (hbase : base ≤ w.heap.size)
    (h : ∀ v' w', OwnB w' base e v' (l ++ news) → Below base w w' → wpList P ops Q rest (a.put dst v') w') :
    wpList P ops Q (⟨dst, .call { callee := .builtin .append, args := #[s, x], argTypes := #[t, t] }, ty, pos, after, none⟩ :: rest) a w := by
  obtain ⟨i0, hi0, hz0, hz1, hz2⟩ := info_parts hi
  refine wpList_append_own w rfl s x t rfl base e i0 _ 1 1 ht hi0 hz0 hz1 hz2 rfl (by omega) v l.length (bytesV l) hs hown ad m c (bytesV news) hx (by rw [bytesV_length, hm]; omega) ?_ (bytesV_one _)
    (by unfold maxLen; omega) (by omega) hbase ?_
  · intro j u hu
    rw [bytesV, List.getElem?_map] at hu
    cases hb : news[j]? with
    | none => rw [hb] at hu; cases hu
    | some b =>
      rw [hb] at hu
      cases hu
      exact hnews j b hb
  · intro v' w' hown' hg _
    refine h v' w' ?_ ((Below.refl base w).grown hg hbase (ownBlock_ge hown))
    unfold OwnB
    rw [List.length_append, hm, bytesV_append]
    exact hown'

/-- append of one byte, out of the block that was laid for it. -/
theorem wpList_append_fresh {wr : World} {dst : Option Tmp} {ty : TypeId} {pos : String} {after : Array Edge} {s x : Operand} {t e e' : TypeId} {n : Int}
    (ht : P.underlying t = some (.slice e)) (hi : (P.info? e).map (fun i => (i.zero, i.size, i.bytes)) = some (some (.int .u8 0), 1, 1))
    (base : Nat) (v : Value) (l : List UInt8) (hs : a.eval s = v) (hown : OwnB wr base e v l) (b : UInt8) (hn : n = b.toNat) (hx : a.eval x = .slice (some ⟨wr.heap.size, 0, none⟩) 1 1)
    (hlen : l.length + 1 ≤ 1099511627776) (hbase : base ≤ wr.heap.size)
    (h : ∀ v' w', OwnB w' base e v' (l ++ [b]) → Below base wr w' → wpList P ops Q rest (a.put dst v') w') :
    wpList P ops Q (⟨dst, .call { callee := .builtin .append, args := #[s, x], argTypes := #[t, t] }, ty, pos, after, none⟩ :: rest) a (wr.alloc (.cells #[.int .u8 n] e')) := by
  subst hn
  refine wpList_append_bytes ht hi base v l hs (hown.alloc _) ⟨wr.heap.size, 0, none⟩ 1 1 [b] hx rfl ?_ hlen (by simp; omega) fun v' w' h1 h2 => h v' w' h1 (((Below.refl base wr).alloc hbase _).trans h2)
  intro j u hu
  match j, hu with
  | 0, hu =>
    cases hu
    exact cell_of_row _ wr.heap.size 0 _ e' (0, 0) (heap_alloc_new wr _)

/-- string(b). -/
theorem wpList_str_own {dst : Option Tmp} {ty : TypeId} {pos : String} {after : Array Edge} {x : Operand} {src dT e e' : TypeId}
    (hs : P.underlying src = some (.slice e)) (he : P.underlying e = some (.int .u8)) (hd : P.underlying dT = some .string)
    (base : Nat) (v : Value) (l : List UInt8) (hx : a.eval x = v) (hown : OwnB w base e' v l)
    (h : wpList P ops Q rest (a.put dst (.string ⟨l.toArray⟩)) w) :
    wpList P ops Q (⟨dst, .convert src dT x, ty, pos, after, none⟩ :: rest) a w := by
  have hrun : (convert src dT v).run P w = .ok (.string ⟨l.toArray⟩) w := by
    rcases hown.2 with ⟨rfl, h0⟩ | ⟨g, cap, cur, rfl, _⟩
    · obtain rfl : l = [] := List.eq_nil_of_length_eq_zero h0
      exact run_convert_bytes_nil w src e hs he 0 0 dT hd
    · refine run_convert_bytes_back w src dT e ⟨g, 0, none⟩ cap l hs he hd fun j hj => ?_
      have hc := World.ownsRow.cells hown (g := g) rfl j (byteV l[j])
      exact hc (by rw [bytesV, List.getElem?_map, List.getElem?_eq_getElem hj]; rfl)
  refine wpList_plain rfl fun K hK => ?_
  unfold Oper.wp
  simp [execOp, hx, hrun, Result.andThen]
  exact hK _ _ h

/-- make([]byte, n). -/
theorem wpList_make_bytes {dst : Option Tmp} {ty : TypeId} {pos : String} {after : Array Edge} {x y : Operand} {t e : TypeId}
    (ht : P.underlying t = some (.slice e)) (hi : (P.info? e).map (fun i => (i.zero, i.size, i.bytes)) = some (some (.int .u8 0), 1, 1))
    (base : Nat) (n : Nat) (k : Int) (hx : a.eval x = .int .i64 k) (hy : a.eval y = .int .i64 k) (hk : k = n) (hn : n ≤ 1099511627776) (hbase : base ≤ w.heap.size)
    (h : ∀ w', Hid (w'.heap[w.heap.size]? = some (.cells (bytesV (List.replicate n 0)).toArray e (0, 0))) → Below w.heap.size w w' → w.heap.size < w'.heap.size → wpList P ops Q rest (a.put dst (.slice (some ⟨w.heap.size, 0, none⟩) n n)) w') :
    wpList P ops Q (⟨dst, .makeSlice t x y, ty, pos, after, none⟩ :: rest) a w := by
  obtain ⟨i0, hi0, hz0, hz1, hz2⟩ := info_parts hi
  refine wpList_make_full w rfl x y t rfl base e i0 _ 1 ht hi0 hz0 hz1 .i64 .i64 k k n hx hy hk hk (by rw [hz2]; omega) (by unfold maxLen; omega) hbase ?_
  intro w' hown hg
  have hb : Below w.heap.size w w' := (Below.refl _ w).grown hg (Nat.le_refl _) (by simp)
  rcases hown.2 with ⟨h0, _⟩ | ⟨g, cap, cur, hv, _, hh, _, _, hsz, htk⟩
  · cases h0
  · injection hv with h1 _ h3
    injection h1 with h1
    injection h1 with h1
    subst h1
    subst h3
    refine h w' ?_ hb (Nat.lt_of_not_le fun hle => ?_)
    · have e1 : cur = (bytesV (List.replicate n 0)).toArray := by
        apply Array.toList_inj.1
        rw [List.take_of_length_le (by simp; omega)] at htk
        rw [htk]
        simp only [Value.cells, Nat.mul_one]
        rw [toList_madeCells_one]
        simp [bytesV, byteV]
      rw [← e1]
      exact hh
    · rw [Array.getElem?_eq_none hle] at hh
      cases hh

/-- copy(d, s) from a string, d a cut of a row that is known whole. -/
theorem wpList_copy_str {dst : Option Tmp} {ty : TypeId} {pos : String} {after : Array Edge} {d x : Operand} {dT sT e : TypeId}
    (hu : P.underlying dT = some (.slice e)) (hi : (P.info? e).map (fun i => (i.zero, i.size, i.bytes)) = some (some (.int .u8 0), 1, 1))
    (dp : Option Addr) (dLen dCap : Nat) (t : ByteArray) (hd : a.eval d = .slice dp dLen dCap) (hx : a.eval x = .string t)
    (g off : Nat) (cur : List UInt8) (tt : TypeId) (hg : Hid (w.heap[g]? = some (.cells (bytesV cur).toArray tt (0, 0)))) (hle : t.size ≤ dLen) (hpos : 0 < t.size → dp = some ⟨g, off, none⟩) (hfit : off + t.size ≤ cur.length)
    (B : Nat) (w0 : World) (hb : Below B w0 w) (hBg : B ≤ g)
    (h : ∀ w', Hid (w'.heap[g]? = some (.cells (bytesV (splice cur off t.data.toList)).toArray tt (0, 0))) → Below B w0 w' → wpList P ops Q rest (a.put dst (.int .i64 (t.size : Int))) w') :
    wpList P ops Q (⟨dst, .call { callee := .builtin .copy, args := #[d, x], argTypes := #[dT, sT] }, ty, pos, after, none⟩ :: rest) a w := by
  obtain ⟨i0, hi0, hz0, hz1, hz2⟩ := info_parts hi
  have hts : t.data.toList.length = t.size := by simp
  have hmin : Nat.min t.size dLen = t.size := Nat.min_eq_left hle
  refine wpList_plain rfl fun K hK => ?_
  by_cases h0 : t.size = 0
  · have hnil : t.data.toList = [] := List.eq_nil_of_length_eq_zero (by omega)
    have he : t.extract 0 t.size = t := by simp
    have hrun : (Builtin.copy_ #[dT, sT] ty #[.slice dp dLen dCap, .string t]).run P w = .ok (goInt t.size) w := by
      have ha : t.data = #[] := Array.toList_inj.1 (by simpa using hnil)
      cases dp <;> simp [Builtin.copy_, run_underlying hu, Builtin.lenOf, Builtin.firstCells, sizeOf, typeInfo, hi0, hz1, hmin, he, ha, storeCells]
    have hw := h w (by rw [hnil]; simpa [splice] using hg) hb
    unfold Oper.wp
    simp [execOp, resolve, invoke, builtin, hd, hx, hrun, Result.andThen]
    exact hK _ _ hw
  · have hp := hpos (by omega)
    subst hp
    have hg' := hg.out
    have hst := run_storeCells_at P g off tt (bytesV t.data.toList) 0 (bytesV cur).toArray w hg' (by simp [bytesV_length]; omega) (bytesV_one _)
    have he : t.extract 0 t.size = t := by simp
    have hmap : (Array.map (fun b : UInt8 => Value.int .u8 (b.toNat : Int)) t.data).toList = bytesV t.data.toList := by simp [bytesV, byteV]
    have hrun : (Builtin.copy_ #[dT, sT] ty #[.slice (some ⟨g, off, none⟩) dLen dCap, .string t]).run P w =
        .ok (goInt t.size) (w.setRow g (bytesV (splice cur off t.data.toList)).toArray) := by
      have e2 : (List.take (off + 0) (bytesV cur).toArray.toList ++ bytesV t.data.toList ++ List.drop (off + 0 + (bytesV t.data.toList).length) (bytesV cur).toArray.toList) = bytesV (splice cur off t.data.toList) := by
        simp [splice, bytesV]
      rw [e2] at hst
      simp only [Builtin.copy_, Builtin.lenOf, Builtin.firstCells, sizeOf, typeInfo]
      simp [run_underlying hu, hi0, hz1, hmin, he]
      have hst' : (storeCells ⟨g, off, none⟩ (Array.map (fun b : UInt8 => Value.int .u8 (b.toNat : Int)) t.data).toList).run P w = _ := (congrArg (fun z => (storeCells ⟨g, off, none⟩ z).run P w) hmap).trans hst
      simp at hst'
      rw [List.take_of_length_le (by simp), hst']
      simp
    have hw := h (w.setRow g (bytesV (splice cur off t.data.toList)).toArray) (setRow_heap w g (bytesV cur).toArray _ tt _ hg') (hb.trans ⟨rfl, rfl, rfl, by simp [World.setRow], fun k hk => by
      simp only [World.setRow, Array.getElem?_modify]
      rw [if_neg (by omega)]⟩)
    unfold Oper.wp
    simp [execOp, resolve, invoke, builtin, hd, hx, hrun, Result.andThen]
    exact hK _ _ hw
end
end Go.Proofs.YtpncnkihfijmaaaDoor
