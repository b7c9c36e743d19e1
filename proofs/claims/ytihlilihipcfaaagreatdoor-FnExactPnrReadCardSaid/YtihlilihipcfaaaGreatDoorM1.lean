/-
  What every text here uses: readings carried over a call that leaves old memory as it was; small facts on values and strings. Rows of elements of some cells each, that the call itself made: make, append, a look. Over any program. Cells and marks of old blocks, carried over calls that left all that stood. Slices that read as a list of cells, nil let in; rows of the call's own. Lists of texts, as cells. spec.l01Split: a text cut at each byte of a kind. A text cut at each byte of a kind: plain mathematics; the library's way and spec's are one. Lists of texts: as cells; the laws' own size, copy and equality of them. spec.l02Is: whether a number lies between two. SeatRight; the laws' own copies of seats. The laws' own equality of seats.
-/
import Derived.Test.YtihlilihipcfaaaGreatDoorProg
import Derived.WalkKit
import Derived.ProofKit
import Derived.OpenShut
import Derived.Carry
import Derived.Lib.Hide
import Derived.WalkSpells
import Derived.Laws.CopyOwn
import Derived.Lib.LazyBuf
import Derived.Handy
import Derived.Laws.OwnMore
import Derived.Lib.SplitLaws
import Derived.Deep.RegionHeld3
namespace Go.Proofs.YtihlilihipcfaaaGreatDoor
open Go.ChangeShapes Go.WideShapes Go.ChangeAt Go.RowKit Go.ChangeMaps
set_option maxRecDepth 10000

theorem own : ownKnob Tryz.prog.godebug = none := by kernel_rfl
theorem laidOut : laidOutB Tryz.prog = true := by kernel_rfl

section
variable {H : Type} {enc : TypeId × Value → H} {P : Program}
theorem trodAll_below (hl : laidOutB P = true) {W W' : World} (hb : Below W.heap.size W W') :
    ∀ (ts : List TypeId) (vs : List Value) (ds : List (DataW H)) (ps : List MemPlace), (∀ t ∈ ts, P.readableRec t = true ∧ t < P.types.size) →
      DataW.TrodAll enc P W 0 (fun _ => true) true ts vs ds ps → (∀ x ∈ ps, x.block < W.heap.size) → ∀ sp : Nat → Bool, (∀ x ∈ ps, sp x.block = true) → DataW.TrodAll enc P W' 0 sp true ts vs ds ps
  | [], [], [], _, _, h, _, _, _ => h
  | t :: ts, v :: vs, d :: ds, ps, hr, h, hlt, sp, hsp => by
    obtain ⟨p, q, h1, h2, rfl⟩ := h
    refine ⟨p, q, ?_, trodAll_below hl hb ts vs ds q (fun t ht => hr t (List.mem_cons_of_mem _ ht)) h2 (fun x hx => hlt x (List.mem_append_right _ hx)) sp (fun x hx => hsp x (List.mem_append_right _ hx)), rfl⟩
    obtain ⟨h3, h4⟩ := hr t List.mem_cons_self
    exact WideElems.Trod_stays hl h3 h4 h1 (fun x hx => hb.same (hlt x (List.mem_append_left _ hx))) (fun x hx => hsp x (List.mem_append_left _ hx))
  | [], _ :: _, _, _, _, h, _, _, _ => h.elim
  | [], [], _ :: _, _, _, h, _, _, _ => h.elim
  | _ :: _, [], _, _, _, h, _, _, _ => h.elim
  | _ :: _, _ :: _, [], _, _, h, _, _, _ => h.elim

theorem trodAll_length : ∀ {W : World} {sp : Nat → Bool} {hd : Bool} {b : Nat} (ts : List TypeId) (vs : List Value) (ds : List (DataW H)) (ps : List MemPlace), DataW.TrodAll enc P W b sp hd ts vs ds ps → ds.length = ts.length
  | _, _, _, _, [], [], [], _, _ => rfl
  | _, _, _, _, _ :: ts, _ :: vs, _ :: ds, _, h => by
    obtain ⟨_, _, _, h2, _⟩ := h
    simp [trodAll_length ts vs ds _ h2]
  | _, _, _, _, [], _ :: _, _, _, h => h.elim
  | _, _, _, _, [], [], _ :: _, _, h => h.elim
  | _, _, _, _, _ :: _, [], _, _, h => h.elim
  | _, _, _, _, _ :: _, _ :: _, [], _, h => h.elim

theorem post_of_below {f : Func} {s : ChangeSpec} {apart fresh handsOn again : Bool} {W W' : World} {args : Array Value} {v : Value} {ds gs : List (DataW H)} {before pa pv : List MemPlace}
    (hW : DataW.Whole enc P f.params.toList s.vars apart W args.toList ds gs before)
    (hres : ∀ (b : Nat) (sp : Nat → Bool) (hd : Bool), DataW.TrodAll enc P W' b sp hd f.resultTypes.toList (v.resultList f.resultTypes.size) (s.fn H (ds ++ gs)).results [])
    (hargs : ∀ sp : Nat → Bool, (∀ p ∈ before, sp p.block = true) → DataW.TrodAll enc P W' 0 sp true f.params.toList args.toList (s.fn H (ds ++ gs)).args pa)
    (hvars : ∀ sp : Nat → Bool, (∀ p ∈ before, sp p.block = true) → DataW.TrodVars enc P W' sp s.vars (s.fn H (ds ++ gs)).vars pv)
    (hps : before = pa ++ pv) (hb : Below W.heap.size W W')
    (hok : ∀ (j : Nat) (t : TypeId) (r : Value), f.resultTypes[j]? = some t → (v.resultList f.resultTypes.size)[j]? = some r → Value.okWide P W' .any 0 t r) :
    s.post enc P f apart fresh handsOn again W args v W' := by
  have hlt : ∀ p ∈ before, p.block < W.heap.size := fun p hp => hW.lt p hp
  have hold : ∀ p ∈ before, (fun b => decide (b < W.heap.size)) p.block = true := fun p hp => by simpa using hlt p hp
  refine ⟨ds, gs, before, [], pa, pv, hW, hres _ _ _, hargs _ hold, hvars _ hold, World.keptBut_mono (fun p hp => ⟨hp, ?_⟩) (hb.frame (· ∈ before)), fun _ => ?_⟩
  · rw [hps, List.mem_append] at hp
    exact Or.inr hp
  · obtain ⟨_, _, _, _, _, hz, hn⟩ := hW
    refine ⟨hok, _, _, ([] ++ pa) ++ pv, ⟨[] ++ pa, pv, trodAll_append (hargs _ (fun _ _ => rfl)) (hres _ _ _), hvars _ (fun _ _ => rfl), rfl, ?_, ?_⟩, ?_⟩
    · intro b off hp
      have hin : MemPlace.cell b off ∈ before := by rw [hps]; simpa using hp
      rw [hb.frozen (hlt _ hin)]
      exact hz b off hin
    · intro ha
      have := hn ha
      rw [hps] at this
      simpa using this
    · intro p hp _
      rw [hps]
      simpa using hp
end

/-- What a law's walk owes: it returns true; below the heap's old size nothing has turned. -/
def Holds (e : Ending) (W W' : World) : Prop := e = .returned (.bool true) ∧ Below W.heap.size W W'

theorem bcell {B : Nat} {W w1 : World} (hb : Below B W w1) : (∀ b o, b < B → w1.cell? ⟨b, o, none⟩ = W.cell? ⟨b, o, none⟩) ∧ (∀ b o, b < B → w1.frozen? ⟨b, o, none⟩ = W.frozen? ⟨b, o, none⟩) :=
  ⟨fun b o h => hb.cell (p := ⟨b, o, none⟩) h, fun b o h => hb.frozen (p := ⟨b, o, none⟩) h⟩
theorem str_inj {a b : ByteArray} (h : a.toList = b.toList) : a = b := by
  rw [ByteArray.toList_eq, ByteArray.toList_eq] at h
  exact ByteArray.ext (Array.toList_inj.1 h)
theorem str_ne {a b : ByteArray} (h : ¬ a = b) : (a.toList == b.toList) = false := by
  rw [beq_eq_false_iff_ne]
  exact fun he => h (str_inj he)
/-- A cell of a block that was laid just ahead of a call which left all that stood. -/
theorem newcell {w w1 : World} {cs : Array Value} {t : TypeId} (hb : Below (w.alloc (.cells cs t)).heap.size (w.alloc (.cells cs t)) w1) (i : Nat) {v : Value} (h : cs[i]? = some v) :
    w1.cell? ⟨w.heap.size, i, none⟩ = some v ∧ w1.frozen? ⟨w.heap.size, i, none⟩ = false := by
  have hg : w1.heap[w.heap.size]? = some (.cells cs t (0, 0)) := (hb.block w.heap.size (by simp)).trans (heap_alloc_new w _)
  exact ⟨(cell_of_row _ _ _ _ _ _ hg).trans h, by simp [World.frozen?, hg]⟩
/-- .. and behind one more such call. -/
theorem cell_on {w w1 w2 : World} {i : Nat} {v : Value} (h : w1.cell? ⟨w.heap.size, i, none⟩ = some v ∧ w1.frozen? ⟨w.heap.size, i, none⟩ = false) (hb : Below w1.heap.size w1 w2) (hz : w.heap.size + 1 ≤ w1.heap.size) :
    w2.cell? ⟨w.heap.size, i, none⟩ = some v ∧ w2.frozen? ⟨w.heap.size, i, none⟩ = false :=
  ⟨(hb.cell (p := ⟨w.heap.size, i, none⟩) (show w.heap.size < w1.heap.size by omega)).trans h.1, (hb.frozen (p := ⟨w.heap.size, i, none⟩) (show w.heap.size < w1.heap.size by omega)).trans h.2⟩
theorem ret_int {k : IntKind} {a b : Int} (h : a = b) : Ending.returned (.int k a) = .returned (.int k b) := by rw [h]
theorem val_int {k : IntKind} {a b : Int} (h : a = b) : Value.int k a = .int k b := by rw [h]
theorem ret_bool {a b : Bool} (h : a = b) : Ending.returned (.bool a) = .returned (.bool b) := by rw [h]
theorem nat_of {n : Int} (h : 0 ≤ n) : ∃ k : Nat, n = k := ⟨n.toNat, by omega⟩
theorem take_snoc (s : ByteArray) (k : Nat) (h : k < s.size) : s.data.toList.take (k + 1) = s.data.toList.take k ++ [s[k]] := by
  rw [List.take_succ_eq_append_getElem (by simpa using h)]; rfl
theorem wf_i64 {n : Int} (h : (Lit.int .i64 n).wf = true) : -9223372036854775808 ≤ n ∧ n ≤ 9223372036854775807 := by
  simpa [Lit.wf, IntKind.min, IntKind.max, IntKind.signed, IntKind.bits] using h

theorem bsize (l : List UInt8) : (ByteArray.mk l.toArray).size = l.length := by simp [ByteArray.size]
theorem bappend (l : List UInt8) (s : ByteArray) : ByteArray.mk l.toArray ++ s = ⟨(l ++ s.data.toList).toArray⟩ := by
  rw [ByteArray.ext_iff]; simp
theorem bappend' (s : ByteArray) (l : List UInt8) : s ++ ByteArray.mk l.toArray = ⟨(s.data.toList ++ l).toArray⟩ := by
  rw [ByteArray.ext_iff]; simp
theorem ofNat_toNat {n : Nat} (h : n < 256) : (UInt8.ofNat n).toNat = n := by
  rw [UInt8.toNat_ofNat']; exact Nat.mod_eq_of_lt h
theorem undrew {B : Nat} {W w1 : World} (h : Below B W.drew w1) : Below B W w1 := ⟨h.os, h.tape, h.output, h.size, h.block⟩

end Go.Proofs.YtihlilihipcfaaaGreatDoor
namespace Go.Proofs.YtihlilihipcfaaaGreatDoor
open Go.ChangeShapes Go.WideShapes Go.ChangeAt Go.RowKit Go.ChangeMaps
set_option maxRecDepth 10000
set_option linter.unusedSimpArgs false
set_option linter.unusedVariables false

theorem ownBlock_from {w : World} {base : Nat} {e : TypeId} {size n : Nat} {v : Value} {xs : List Value} (h : w.ownsRow base e size v n xs) : ∀ k, v.ownBlock = some k → base ≤ k :=
  fun k hk => (h.lt k hk).1
theorem ownsRow_below {w w' : World} {base : Nat} {e : TypeId} {size n : Nat} {v : Value} {xs : List Value} (h : w.ownsRow base e size v n xs) (hb : Below w.heap.size w w') : w'.ownsRow base e size v n xs :=
  World.ownsRow.kept h (row := none) ⟨hb.os, hb.tape, hb.output, hb.size, fun k hk _ => hb.block k hk⟩ (by cases hv : v.ownBlock <;> simp)
theorem ownsRow_base {w : World} {base base' : Nat} {e : TypeId} {size n : Nat} {v : Value} {xs : List Value} (h : w.ownsRow base e size v n xs) (hle : base' ≤ base) : w.ownsRow base' e size v n xs := by
  obtain ⟨h1, h2 | ⟨g, cap, cur, hv, hb, h3⟩⟩ := h
  · exact ⟨h1, .inl h2⟩
  · exact ⟨h1, .inr ⟨g, cap, cur, hv, Nat.le_trans hle hb, h3⟩⟩

section
variable {P : Program} {w : World} {ops : Array Oper} {rest : List Oper} {a : Act} {Q : Exit → Act → World → Prop}

/-- append of one element, out of the block that was laid for it. -/
theorem wpList_append_elem {wr : World} {dst : Option Tmp} {ty : TypeId} {pos : String} {after : Array Edge} {s x : Operand} {t e e' : TypeId} {z : Value} {k bytes : Nat} {cs : Array Value}
    (ht : P.underlying t = some (.slice e)) (hi : (P.info? e).map (fun i => (i.zero, i.size, i.bytes)) = some (some z, k, bytes)) (hzs : z.cells.size = k) (hk : 0 < k) (hby : bytes ≤ 1000)
    (base : Nat) (v : Value) (n : Nat) (xs : List Value) (hs : a.eval s = v) (hown : wr.ownsRow base e k v n xs) (hx : a.eval x = .slice (some ⟨wr.heap.size, 0, none⟩) 1 1)
    (hcs : cs.size = k) (h1 : ∀ u ∈ cs.toList, u.oneCell' = true) (hlen : n + 1 ≤ 1099511627) (hbase : base ≤ wr.heap.size)
    (h : ∀ v' w', w'.ownsRow base e k v' (n + 1) (xs ++ cs.toList) → Below base wr w' → wpList P ops Q rest (a.put dst v') w') :
    wpList P ops Q (⟨dst, .call { callee := .builtin .append, args := #[s, x], argTypes := #[t, t] }, ty, pos, after, none⟩ :: rest) a (wr.alloc (.cells cs e')) := by
  obtain ⟨i0, hi0, hz0, hz1, hz2⟩ := info_parts hi
  have hb : (n + 1) * bytes ≤ 140737488355328 := Nat.le_trans (Nat.mul_le_mul_left _ hby) (by omega)
  refine wpList_append_own (wr.alloc (.cells cs e')) rfl s x t rfl base e i0 z k bytes ht hi0 hz0 hz1 hz2 hzs hk v n xs hs (hown.alloc _) ⟨wr.heap.size, 0, none⟩ 1 1 cs.toList hx (by simp [hcs]) ?_ h1 (by unfold maxLen; omega) hb (by simp; omega) ?_
  · intro j u hu
    have hadd : ((⟨wr.heap.size, 0, none⟩ : Addr).add j) = ⟨wr.heap.size, j, none⟩ := by unfold Addr.add; split <;> simp_all
    rw [hadd, cell_of_row _ wr.heap.size j cs e' (0, 0) (heap_alloc_new wr _)]
    simpa using hu
  · intro v' w' hown' hg _
    exact h v' w' hown' (((Below.refl base wr).alloc hbase _).trans ((Below.refl base _).grown hg (by simp; omega) (ownBlock_from hown)))

/-- make([]T, 0, n). -/
theorem wpList_make_room {dst : Option Tmp} {ty : TypeId} {pos : String} {after : Array Edge} {x y : Operand} {t e : TypeId} {z : Value} {k bytes : Nat}
    (ht : P.underlying t = some (.slice e)) (hi : (P.info? e).map (fun i => (i.zero, i.size, i.bytes)) = some (some z, k, bytes)) (hby : bytes ≤ 1000)
    (n : Nat) (c : Int) (hx : a.eval x = .int .i64 0) (hy : a.eval y = .int .i64 c) (hc : c = n) (hn : n ≤ 1099511627)
    (h : ∀ v w', w'.ownsRow w.heap.size e k v 0 [] → Below w.heap.size w w' → wpList P ops Q rest (a.put dst v) w') :
    wpList P ops Q (⟨dst, .makeSlice t x y, ty, pos, after, none⟩ :: rest) a w := by
  obtain ⟨i0, hi0, hz0, hz1, hz2⟩ := info_parts hi
  have hb : i0.bytes * n ≤ 281474976710656 := by rw [hz2]; exact Nat.le_trans (Nat.mul_le_mul_right _ hby) (by omega)
  refine wpList_make_own w rfl x y t rfl w.heap.size e i0 z k ht hi0 hz0 hz1 .i64 .i64 c n hx hy hc hb (by unfold maxLen; omega) (Nat.le_refl _) ?_
  intro w' hown hg
  exact h _ w' hown ((Below.refl _ w).grown hg (Nat.le_refl _) (by simp))
end

/-- A row that holds something: where it lies, and its cells. -/
theorem row_at {w : World} {base : Nat} {e : TypeId} {k n : Nat} {v : Value} {xs : List Value} (h : w.ownsRow base e k v n xs) (hn : 0 < n) :
    ∃ g cap, v = .slice (some ⟨g, 0, none⟩) n cap ∧ base ≤ g ∧ n ≤ cap ∧ cap ≤ maxLen ∧ g < w.heap.size ∧ ∀ j u, xs[j]? = some u → w.cell? ⟨g, j, none⟩ = some u := by
  obtain ⟨h1, h2 | ⟨g, cap, cur, rfl, hb, hg, hnc, hcm, hcs, htk⟩⟩ := h
  · omega
  · refine ⟨g, cap, rfl, hb, hnc, hcm, (Array.getElem?_eq_some_iff.1 hg).1, fun j u hu => ?_⟩
    rw [cell_of_row w g j cur e (0, 0) hg]
    rw [← htk, List.getElem?_take] at hu
    split at hu
    · simpa using hu
    · cases hu
end Go.Proofs.YtihlilihipcfaaaGreatDoor
namespace Go.Proofs.YtihlilihipcfaaaGreatDoor
open Go.ChangeShapes Go.WideShapes Go.ChangeAt Go.RowKit Go.ChangeMaps
set_option maxRecDepth 10000

/-- A cell of an old block reads on behind a call that left all that stood. -/
theorem kc {n : Nat} {W w1 : World} (hb : Below n W w1) {b i : Nat} {v : Value} (h : W.cell? ⟨b, i, none⟩ = some v) (hlt : b < n) : w1.cell? ⟨b, i, none⟩ = some v :=
  (hb.cell (p := ⟨b, i, none⟩) hlt).trans h

theorem kf {n : Nat} {W w1 : World} (hb : Below n W w1) {b i : Nat} (h : W.frozen? ⟨b, i, none⟩ = false) (hlt : b < n) : w1.frozen? ⟨b, i, none⟩ = false :=
  (hb.frozen (p := ⟨b, i, none⟩) hlt).trans h

theorem bstep {n : Nat} {w W W' : World} (hb : Below W.heap.size W W') (h : Below n w W) (hz : n ≤ W.heap.size) : Below n w W' := h.trans (hb.mono hz)
theorem zstep {n : Nat} {W W' : World} (hb : Below W.heap.size W W') (h : n ≤ W.heap.size) : n ≤ W'.heap.size := Nat.le_trans h hb.size
/-- .. and behind a new block and a call. -/
theorem kca {W w1 : World} {o : Obj} (hb : Below (W.alloc o).heap.size (W.alloc o) w1) {b i : Nat} {v : Value} (h : W.cell? ⟨b, i, none⟩ = some v) : w1.cell? ⟨b, i, none⟩ = some v := by
  have hlt := World.block_lt_of_cell? W ⟨b, i, none⟩ h
  exact kc hb ((World.cell?_alloc_old W o ⟨b, i, none⟩ (Nat.ne_of_lt hlt)).trans h) (by simp; exact Nat.lt_succ_of_lt hlt)
theorem kfa {W w1 : World} {o : Obj} (hb : Below (W.alloc o).heap.size (W.alloc o) w1) {b i : Nat} (h : W.frozen? ⟨b, i, none⟩ = false) (hlt : b < W.heap.size) : w1.frozen? ⟨b, i, none⟩ = false :=
  kf hb ((World.frozen?_alloc_old W o ⟨b, i, none⟩ (Nat.ne_of_lt hlt)).trans h) (by simp; exact Nat.lt_succ_of_lt hlt)
/-- A cell behind a new block; behind a draw. -/
theorem ka {W : World} {o : Obj} {b i : Nat} {v : Value} (h : W.cell? ⟨b, i, none⟩ = some v) : (W.alloc o).cell? ⟨b, i, none⟩ = some v :=
  (World.cell?_alloc_old W o ⟨b, i, none⟩ (Nat.ne_of_lt (World.block_lt_of_cell? W ⟨b, i, none⟩ h))).trans h
theorem kd {W : World} {a : Addr} {v : Value} (h : W.cell? a = some v) : W.drew.cell? a = some v := h
end Go.Proofs.YtihlilihipcfaaaGreatDoor
namespace Go.Proofs.YtihlilihipcfaaaGreatDoor
open Go.ChangeShapes Go.WideShapes Go.ChangeAt Go.RowKit Go.ChangeMaps
set_option maxRecDepth 10000
set_option linter.unusedSimpArgs false
set_option linter.unusedVariables false

/-- The slice at A, of n elements of k cells each, reads as the cells xs, all below block B. -/
def Lies (w : World) (B k : Nat) (A : Option Addr) (n : Nat) (xs : List Value) : Prop :=
  xs.length = n * k ∧ (0 < n → ∃ b off, A = some ⟨b, off, none⟩ ∧ b < B ∧ ∀ j u, xs[j]? = some u → w.cell? ⟨b, off + j, none⟩ = some u)

section
variable {w w' : World} {B B' k n : Nat} {A : Option Addr} {xs : List Value}
theorem Lies.none_ : Lies w B k A 0 [] := ⟨by simp, fun h => absurd h (by omega)⟩
theorem Lies.below (h : Lies w B k A n xs) (hb : Below B w w') : Lies w' B k A n xs :=
  ⟨h.1, fun hn => by
    obtain ⟨b, off, e, hlt, hc⟩ := h.2 hn
    exact ⟨b, off, e, hlt, fun j u hu => (hb.cell (p := ⟨b, off + j, none⟩) hlt).trans (hc j u hu)⟩⟩
theorem Lies.mono (h : Lies w B k A n xs) (hB : B ≤ B') : Lies w B' k A n xs :=
  ⟨h.1, fun hn => by
    obtain ⟨b, off, e, hlt, hc⟩ := h.2 hn
    exact ⟨b, off, e, by omega, hc⟩⟩
theorem Lies.drew (h : Lies w B k A n xs) : Lies w.drew B k A n xs := h
theorem Lies.alloc (h : Lies w w.heap.size k A n xs) (o : Obj) : Lies (w.alloc o) (w.alloc o).heap.size k A n xs :=
  (h.below ((Below.refl _ w).alloc (Nat.le_refl _) o)).mono (by simp)
/-- .. behind a call that left all that lay. -/
theorem Lies.on (h : Lies w w.heap.size k A n xs) (hb : Below w.heap.size w w') : Lies w' w'.heap.size k A n xs := (h.below hb).mono hb.size
theorem Lies.own {base : Nat} {e : TypeId} {c : Nat} (h : w.ownsRow base e k (.slice A n c) n xs) : Lies w w.heap.size k A n xs := by
  refine ⟨h.1, fun hn => ?_⟩
  obtain ⟨g, cap, hv, _, _, _, hlt, hc⟩ := row_at h hn
  injection hv with hv
  subst hv
  exact ⟨g, 0, rfl, hlt, fun j u hu => by rw [Nat.zero_add]; exact hc j u hu⟩
end

/-- What a row of one's own looks like. -/
theorem own_form {w : World} {base : Nat} {e : TypeId} {k n : Nat} {v : Value} {xs : List Value} (h : w.ownsRow base e k v n xs) :
    ∃ A cap, v = .slice A n cap ∧ n ≤ cap ∧ cap ≤ maxLen := by
  rcases h.2 with ⟨rfl, rfl⟩ | ⟨g, cap, cur, rfl, _, _, h1, h2, _⟩
  · exact ⟨none, 0, rfl, Nat.le_refl _, Nat.zero_le _⟩
  · exact ⟨_, cap, rfl, h1, h2⟩

/-- A row of one's own behind writes to another block, or to none. -/
theorem own_grown {w w' : World} {base : Nat} {e : TypeId} {k n : Nat} {v : Value} {xs : List Value} {row : Option Nat} (h : w.ownsRow base e k v n xs) (hg : w.grownBy w' row) (hne : ∀ g, v.ownBlock = some g → row ≠ some g) : w'.ownsRow base e k v n xs := by
  refine h.kept hg ?_
  cases hv : v.ownBlock with
  | none => exact .inl rfl
  | some g => exact .inr fun he => hne g hv (by rw [← he])

theorem grown_of_below {w w' : World} (h : Below w.heap.size w w') (row : Option Nat) : w.grownBy w' row :=
  ⟨h.os, h.tape, h.output, h.size, fun k hk _ => h.block k hk⟩

theorem below_of_grown {B : Nat} {w w' : World} {row : Option Nat} (hg : w.grownBy w' row) (hB : B ≤ w.heap.size) (hr : ∀ g, row = some g → B ≤ g) : Below B w w' :=
  (Below.refl B w).grown hg hB hr

/-- A reading of old memory behind writes to a block that lies further on, or to none. -/
theorem Lies.grown {w w' : World} {B k n : Nat} {A : Option Addr} {xs : List Value} {row : Option Nat} (h : Lies w B k A n xs) (hg : w.grownBy w' row) (hB : B ≤ w.heap.size) (hr : ∀ g, row = some g → B ≤ g) : Lies w' B k A n xs :=
  h.below (below_of_grown hg hB hr)

section
variable {P : Program} {w : World} {ops : Array Oper} {rest : List Oper} {a : Act} {Q : Exit → Act → World → Prop}
/-- make([]T, n). -/
theorem wpList_make_rows {dst : Option Tmp} {ty : TypeId} {pos : String} {after : Array Edge} {x y : Operand} {t e : TypeId} {z : Value} {k bytes : Nat}
    (ht : P.underlying t = some (.slice e)) (hi : (P.info? e).map (fun i => (i.zero, i.size, i.bytes)) = some (some z, k, bytes)) (hby : bytes ≤ 1000)
    (n : Nat) (c : Int) (hx : a.eval x = .int .i64 c) (hy : a.eval y = .int .i64 c) (hc : c = n) (hn : n ≤ 1099511627)
    (h : ∀ zs w', w'.ownsRow w.heap.size e k (.slice (some ⟨w.heap.size, 0, none⟩) n n) n zs → zs.length = n * k → Below w.heap.size w w' → w.heap.size < w'.heap.size → wpList P ops Q rest (a.put dst (.slice (some ⟨w.heap.size, 0, none⟩) n n)) w') :
    wpList P ops Q (⟨dst, .makeSlice t x y, ty, pos, after, none⟩ :: rest) a w := by
  obtain ⟨i0, hi0, hz0, hz1, hz2⟩ := info_parts hi
  have hb : i0.bytes * n ≤ 281474976710656 := by rw [hz2]; exact Nat.le_trans (Nat.mul_le_mul_right _ hby) (by omega)
  refine wpList_make_full w rfl x y t rfl w.heap.size e i0 z k ht hi0 hz0 hz1 .i64 .i64 c c n hx hy hc hc hb (by unfold maxLen; omega) (Nat.le_refl _) ?_
  intro w' hown hg
  have hlt : w.heap.size < w'.heap.size := by
    rcases hown.2 with ⟨h0, _⟩ | ⟨g, cap, cur, hv, _, hh, _⟩
    · cases h0
    · injection hv with h1 _ h3
      injection h1 with h1
      injection h1 with h1
      subst h1
      exact (Array.getElem?_eq_some_iff.1 hh).1
  exact h _ w' hown hown.1 ((Below.refl _ w).grown hg (Nat.le_refl _) (by simp)) hlt
end

/-- Three cells stored, one behind the other. -/
theorem set_three (xs rest : List Value) (m : Nat) (hx : xs.length = m) (hr : 3 ≤ rest.length) (u0 u1 u2 : Value) :
    (((xs ++ rest).set m u0).set (m + 1) u1).set (m + 2) u2 = xs ++ [u0, u1, u2] ++ rest.drop 3 := by
  match rest, hr with
  | a :: b :: c :: r, _ =>
    subst hx
    rw [List.set_append_right _ _ (Nat.le_refl _), List.set_append_right _ _ (by omega), List.set_append_right _ _ (by omega)]
    have e1 : xs.length + 1 - xs.length = 1 := by omega
    have e2 : xs.length + 2 - xs.length = 2 := by omega
    rw [Nat.sub_self, e1, e2]
    simp
theorem set_one (xs rest : List Value) (m : Nat) (hx : xs.length = m) (hr : 1 ≤ rest.length) (u0 : Value) :
    (xs ++ rest).set m u0 = xs ++ [u0] ++ rest.drop 1 := by
  match rest, hr with
  | a :: r, _ =>
    subst hx
    rw [List.set_append_right _ _ (Nat.le_refl _), Nat.sub_self]
    simp
end Go.Proofs.YtihlilihipcfaaaGreatDoor
namespace Go.Proofs.YtihlilihipcfaaaGreatDoor
open Go.ChangeShapes Go.WideShapes Go.ChangeAt Go.RowKit Go.ChangeMaps
set_option maxRecDepth 10000
set_option linter.unusedSimpArgs false
set_option linter.unusedVariables false

def strsC (l : List ByteArray) : List Value := l.map Value.string
theorem strsC_length (l : List ByteArray) : (strsC l).length = l.length := List.length_map _
theorem strsC_append (l m : List ByteArray) : strsC (l ++ m) = strsC l ++ strsC m := List.map_append
theorem strsC_one (l : List ByteArray) : ∀ v ∈ strsC l, v.oneCell' = true := by
  intro v hv
  obtain ⟨x, _, rfl⟩ := List.mem_map.1 hv
  rfl
theorem strsC_at {l : List ByteArray} {i : Nat} {s : ByteArray} (h : l[i]? = some s) : (strsC l)[i]? = some (.string s) := by
  rw [strsC, List.getElem?_map, h]; rfl
theorem strsC_take_succ {l : List ByteArray} {k : Nat} {s : ByteArray} (h : l[k]? = some s) : strsC (l.take (k + 1)) = strsC (l.take k) ++ [.string s] := by
  rw [List.take_add_one, h, strsC_append]
  rfl
theorem Lies.str {w : World} {B n i : Nat} {A : Option Addr} {l : List ByteArray} (h : Lies w B 1 A n (strsC l)) (hi : i < n) :
    ∃ b off s, A = some ⟨b, off, none⟩ ∧ b < B ∧ l[i]? = some s ∧ w.cell? ⟨b, off + i, none⟩ = some (.string s) := by
  obtain ⟨hl, h2⟩ := h
  obtain ⟨b, off, rfl, hb, hc⟩ := h2 (by omega)
  rw [strsC_length] at hl
  have hil : i < l.length := by omega
  exact ⟨b, off, l[i], rfl, hb, List.getElem?_eq_getElem hil, hc _ _ (strsC_at (List.getElem?_eq_getElem hil))⟩

theorem info_str : (Tryz.prog.info? 9).map (fun i => (i.zero, i.size, i.bytes)) = some (some (.string ⟨#[]⟩), 1, 16) := by kernel_rfl
end Go.Proofs.YtihlilihipcfaaaGreatDoor
namespace Go.Proofs.YtihlilihipcfaaaGreatDoor
open Go.ChangeShapes Go.WideShapes Go.ChangeAt Go.RowKit Go.ChangeMaps
set_option maxRecDepth 10000
set_option linter.unusedSimpArgs false
set_option linter.unusedVariables false

/-- The words that end ahead of byte k, and where the next begins. -/
def spT (t : ByteArray) (b : Int) : Nat → List ByteArray × Nat
  | 0 => ([], 0)
  | k + 1 => if h : k < t.size then (if (t[k].toNat : Int) = b then ((spT t b k).1 ++ [t.extract (spT t b k).2 k], k + 1) else spT t b k) else spT t b k
def splitT (t : ByteArray) (b : Int) : List ByteArray := (spT t b t.size).1 ++ [t.extract (spT t b t.size).2 t.size]
theorem spT_hit {t : ByteArray} {b : Int} {k : Nat} (h : k < t.size) (hb : (t[k].toNat : Int) = b) : spT t b (k + 1) = ((spT t b k).1 ++ [t.extract (spT t b k).2 k], k + 1) := by rw [spT, dif_pos h, if_pos hb]
theorem spT_miss {t : ByteArray} {b : Int} {k : Nat} (h : k < t.size) (hb : ¬ (t[k].toNat : Int) = b) : spT t b (k + 1) = spT t b k := by rw [spT, dif_pos h, if_neg hb]
theorem spT_le (t : ByteArray) (b : Int) : ∀ k, (spT t b k).2 ≤ k ∧ (spT t b k).1.length ≤ k
  | 0 => ⟨Nat.le_refl _, Nat.le_refl _⟩
  | k + 1 => by
    have ih := spT_le t b k
    by_cases h : k < t.size
    · by_cases hb : (t[k].toNat : Int) = b
      · rw [spT_hit h hb]
        simp
        omega
      · rw [spT_miss h hb]; omega
    · rw [spT, dif_neg h]; omega

def SplRel (t : ByteArray) (b : Int) (w : World) (v f i : Value) (W : World) : Prop :=
  ∃ (k : Nat) (A : Option Addr) (c : Nat), k ≤ t.size ∧ i = .int .i64 k ∧ f = .int .i64 ((spT t b k).2 : Nat) ∧ v = .slice A (spT t b k).1.length c ∧
    W.ownsRow w.heap.size 9 1 (.slice A (spT t b k).1.length c) (spT t b k).1.length (strsC (spT t b k).1) ∧ Below w.heap.size w W

set_option maxHeartbeats 4000000 in
theorem l01Split_any (t : ByteArray) (b : Int) (w : World) (ht : t.size ≤ 1048576) :
    Calls Tryz.prog 36 #[.string t, .int .u8 b] w fun e w' => ∃ (A : Option Addr) (c : Nat), e = .returned (.slice A (splitT t b).length c) ∧ w'.ownsRow w.heap.size 9 1 (.slice A (splitT t b).length c) (splitT t b).length (strsC (splitT t b)) ∧ Below w.heap.size w w' := by
  have HSp : Hid (splitT t b = (spT t b t.size).1 ++ [t.extract (spT t b t.size).2 t.size]) := rfl
  generalize splitT t b = R at *
  have hR0 : (w.alloc (.cells #[] 9)).ownsRow w.heap.size 9 1 (.slice (some ⟨w.heap.size, 0, none⟩) 0 0) 0 (strsC []) := by
    have := World.ownsRow_lit (base := w.heap.size) (e := 9) (size := 1) w #[] 0 (Nat.le_refl _) (by simp) rfl
    simpa [strsC] using this
  have hB0 : Below w.heap.size w (w.alloc (.cells #[] 9)) := (Below.refl _ w).alloc (Nat.le_refl _) _
  go_enter Tryz.func36, Tryz.ntmps36
  go_wp2_with fail
  go_loopw [5, 6, 7] (fun v f i W => SplRel t b w v f i W) (fun _ _ i _ => t.size - (intOf i).toNat)
  case atStart => exact ⟨0, _, 0, Nat.zero_le _, rfl, rfl, rfl, hR0, hB0⟩
  case round =>
    clear hR0 hB0
    obtain ⟨k, A, c, hk, rfl, rfl, rfl, hR, hB⟩ := hrel
    obtain ⟨hf, hn⟩ := spT_le t b k
    have hbs := hB.size
    by_cases hlt : k < t.size
    · by_cases hb : (t[k].toNat : Int) = b
      · have HH := Lib.hid (spT_hit hlt hb)
        generalize hws : (spT t b k).1 = ws at *
        generalize hfr : (spT t b k).2 = fr at *
        clear hws hfr
        go_wp2_with (at_builtin; refine wpList_append_elem Tryz.underlying37 info_str rfl (by decide) (by decide) w.heap.size _ _ _ rfl hR rfl rfl (fun u hu => strsC_one [t.extract fr k] u (by simpa [strsC] using hu)) (by omega) (by omega) ?_; intro v2 w4 hown2 hb2; obtain ⟨A2, c2', rfl, -, -⟩ := own_form hown2)
        go_roundw
        case rel => exact ⟨k + 1, A2, c2', by omega, by go_num, by rw [HH.out]; go_num, by rw [HH.out]; simp, by rw [HH.out]; simpa [strsC] using hown2, hB.trans hb2⟩
        case measure => simp [intOf]; omega
      · have HH := Lib.hid (spT_miss hlt hb)
        generalize hws : (spT t b k).1 = ws at *
        generalize hfr : (spT t b k).2 = fr at *
        go_wp2_with fail
        go_roundw
        case rel => exact ⟨k + 1, A, c, by omega, by go_num, by rw [HH.out, hfr], by rw [HH.out, hws], by rw [HH.out, hws]; exact hR, hB⟩
        case measure => simp [intOf]; omega
    · obtain rfl : k = t.size := by omega
      generalize (spT t b t.size).1 = ws at *
      generalize (spT t b t.size).2 = fr at *
      go_wp2_with (at_builtin; refine wpList_append_elem Tryz.underlying37 info_str rfl (by decide) (by decide) w.heap.size _ _ _ rfl hR rfl rfl (fun u hu => strsC_one [t.extract fr t.size] u (by simpa [strsC] using hu)) (by omega) (by omega) ?_; intro v2 w4 hown2 hb2; obtain ⟨A2, c2', rfl, -, -⟩ := own_form hown2)
      go_ret
      exact ⟨A2, c2', by rw [HSp.out]; simp, by rw [HSp.out]; simpa [strsC] using hown2, hB.trans hb2⟩
end Go.Proofs.YtihlilihipcfaaaGreatDoor
namespace Go.Proofs.YtihlilihipcfaaaGreatDoor
open Go.ChangeShapes Go.WideShapes Go.ChangeAt Go.RowKit Go.ChangeMaps
set_option maxRecDepth 10000

/-- A text cut at each b. -/
def cutL (b : UInt8) : List UInt8 → List (List UInt8)
  | [] => [[]]
  | c :: l => if c = b then [] :: cutL b l else match cutL b l with
    | [] => [[c]]
    | x :: r => (c :: x) :: r
/-- .. and put together again. -/
def joinL (b : UInt8) : List (List UInt8) → List UInt8
  | [] => []
  | [x] => x
  | x :: y :: r => x ++ b :: joinL b (y :: r)

theorem cutL_ne (b : UInt8) (l : List UInt8) : cutL b l ≠ [] := by
  cases l with
  | nil => simp [cutL]
  | cons c l =>
    rw [cutL]
    split
    · simp
    · split <;> simp
theorem cutL_app (b : UInt8) : ∀ (x l : List UInt8), b ∉ x → cutL b (x ++ b :: l) = x :: cutL b l
  | [], l, _ => by simp [cutL]
  | c :: x, l, h => by
    have hc : c ≠ b := fun e => h (by simp [e])
    rw [List.cons_append, cutL, if_neg hc, cutL_app b x l (fun hm => h (List.mem_cons_of_mem _ hm))]
theorem cutL_free (b : UInt8) : ∀ x : List UInt8, b ∉ x → cutL b x = [x]
  | [], _ => rfl
  | c :: x, h => by
    have hc : c ≠ b := fun e => h (by simp [e])
    rw [cutL, if_neg hc, cutL_free b x (fun hm => h (List.mem_cons_of_mem _ hm))]
theorem cutL_join (b : UInt8) : ∀ ws : List (List UInt8), ws ≠ [] → (∀ x ∈ ws, b ∉ x) → cutL b (joinL b ws) = ws
  | [], h, _ => absurd rfl h
  | [x], _, h => cutL_free b x (h x (by simp))
  | x :: y :: r, _, h => by
    rw [joinL, cutL_app b x _ (h x (by simp)), cutL_join b (y :: r) (by simp) (fun z hz => h z (List.mem_cons_of_mem _ hz))]
theorem joinL_snoc (b : UInt8) : ∀ (ws : List (List UInt8)) (x : List UInt8), ws ≠ [] → joinL b (ws ++ [x]) = joinL b ws ++ b :: x
  | [], _, h => absurd rfl h
  | [y], x, _ => rfl
  | y :: z :: r, x, _ => by
    have ih := joinL_snoc b (z :: r) x (by simp)
    rw [List.cons_append] at ih
    rw [List.cons_append, List.cons_append, joinL, joinL, ih]
    simp
theorem joinL_more (b : UInt8) : ∀ (xs ws : List (List UInt8)), ws ≠ [] → joinL b (ws ++ xs) = xs.foldl (fun t x => t ++ b :: x) (joinL b ws)
  | [], ws, _ => by simp
  | x :: xs, ws, h => by
    rw [List.foldl_cons, ← joinL_snoc b ws x h, ← joinL_more b xs (ws ++ [x]) (by simp)]
    simp
theorem cutL_hit (b : UInt8) : ∀ l : List UInt8, cutL b (l ++ [b]) = cutL b l ++ [[]]
  | [] => by simp [cutL]
  | c :: l => by
    by_cases hc : c = b
    · rw [List.cons_append, cutL, if_pos hc, cutL, if_pos hc, cutL_hit b l]
      rfl
    · rw [List.cons_append, cutL, if_neg hc, cutL, if_neg hc, cutL_hit b l]
      have h := cutL_ne b l
      generalize cutL b l = L at *
      cases L with
      | nil => exact absurd rfl h
      | cons x r => rfl
theorem cutL_miss (b : UInt8) {c : UInt8} (hc : c ≠ b) : ∀ (l : List UInt8) (pre : List (List UInt8)) (x : List UInt8), cutL b l = pre ++ [x] → cutL b (l ++ [c]) = pre ++ [x ++ [c]]
  | [], pre, x, h => by
    have e : pre = [] ∧ x = [] := by
      cases pre with
      | nil => simpa [cutL] using h
      | cons p q => simp [cutL] at h
    obtain ⟨rfl, rfl⟩ := e
    simp [cutL, hc]
  | a :: l, pre, x, h => by
    by_cases ha : a = b
    · rw [cutL, if_pos ha] at h
      rw [List.cons_append, cutL, if_pos ha]
      cases pre with
      | nil =>
        have h2 := congrArg List.length h
        have h3 := cutL_ne b l
        simp at h2
        exact absurd h2 h3
      | cons p q =>
        rw [List.cons_append] at h
        injection h with h1 h2
        rw [cutL_miss b hc l q x h2, ← h1]
        rfl
    · rw [cutL, if_neg ha] at h
      rw [List.cons_append, cutL, if_neg ha]
      have h3 := cutL_ne b l
      cases hL : cutL b l with
      | nil => exact absurd hL h3
      | cons y r =>
        rw [hL] at h
        dsimp only at h
        cases pre with
        | nil =>
          rw [List.nil_append] at h
          injection h with h1 h2
          subst h2 h1
          rw [cutL_miss b hc l [] y (by rw [hL]; rfl)]
          rfl
        | cons p q =>
          rw [List.cons_append] at h
          injection h with h1 h2
          subst h1
          rw [cutL_miss b hc l (y :: q) x (by rw [hL, h2]; rfl)]
          rfl

/-- The library's own. -/
theorem splitK_cons (c a : UInt8) (l : List UInt8) (h : a ≠ c) : ∀ k, Lib.splitK [c] 0 k (a :: l) = match Lib.splitK [c] 0 k l with
    | [] => [[a]]
    | x :: r => (a :: x) :: r := by
  have hp : ([c] : List UInt8).isPrefixOf (a :: l) = false := by simp [List.isPrefixOf, Ne.symm h]
  have hix : Lib.index (a :: l) [c] = if Lib.index l [c] == -1 then -1 else Lib.index l [c] + 1 := by rw [Lib.index, hp]; simp
  intro k
  cases k with
  | zero => rfl
  | succ k =>
    unfold Lib.splitK
    by_cases hm : Lib.index l [c] = -1
    · have e1 : Lib.index (a :: l) [c] = -1 := by rw [hix, if_pos (beq_iff_eq.2 hm)]
      rw [if_pos (beq_iff_eq.2 e1), if_pos (beq_iff_eq.2 hm)]
    · have hge := Lib.index_ge l [c]
      obtain ⟨j, hj⟩ : ∃ j : Nat, Lib.index l [c] = j := ⟨(Lib.index l [c]).toNat, by omega⟩
      have e1 : Lib.index (a :: l) [c] = ((j + 1 : Nat) : Int) := by rw [hix, if_neg (fun e => hm (beq_iff_eq.1 e)), hj]; omega
      rw [if_neg (fun e => by have := beq_iff_eq.1 e; omega), if_neg (fun e => hm (beq_iff_eq.1 e)), e1, hj]
      simp
theorem splitK_cut (c : UInt8) : ∀ l : List UInt8, Lib.splitK [c] 0 (Lib.count l [c]) l = cutL c l
  | [] => by rw [Lib.count_one]; rfl
  | a :: l => by
    by_cases h : a = c
    · subst h
      have hix : Lib.index (a :: l) [a] = ((0 : Nat) : Int) := by rw [Lib.index]; simp [List.isPrefixOf]
      rw [Lib.count_cons_eq, Nat.add_comm, cutL, if_pos rfl, Lib.splitK, if_neg (by rw [hix]; simp), hix]
      simp
      exact splitK_cut a l
    · rw [Lib.count_cons_ne a c l h, splitK_cons c a l h, splitK_cut c l, cutL, if_neg h]

/-- A text cut, as texts. -/
def cutB (b : UInt8) (s : ByteArray) : List ByteArray := (cutL b s.data.toList).map fun l => ⟨l.toArray⟩
theorem map_data_inj : ∀ {a b : List ByteArray}, a.map (·.data.toList) = b.map (·.data.toList) → a = b
  | [], [], _ => rfl
  | [], _ :: _, h => by simp at h
  | _ :: _, [], h => by simp at h
  | x :: a, y :: b, h => by
    simp only [List.map_cons, List.cons.injEq] at h
    rw [ByteArray.ext (Array.toList_inj.1 h.1), map_data_inj h.2]
theorem cutB_data (b : UInt8) (s : ByteArray) : (cutB b s).map (·.data.toList) = cutL b s.data.toList := by
  rw [cutB, List.map_map]
  exact (List.map_congr_left (fun x _ => rfl)).trans (List.map_id _)
theorem splitB_cut (c : UInt8) (s : ByteArray) : Lib.splitB ⟨#[c]⟩ 0 (Lib.countB s ⟨#[c]⟩) s = cutB c s := by
  apply map_data_inj
  rw [Lib.splitB_data, cutB_data]
  exact splitK_cut c s.data.toList
theorem cutB_join (b : UInt8) (s : ByteArray) (ws : List ByteArray) (h0 : ws ≠ []) (hf : ∀ x ∈ ws, b ∉ x.data.toList) (hs : s.data.toList = joinL b (ws.map (·.data.toList))) : cutB b s = ws := by
  apply map_data_inj
  rw [cutB_data, hs]
  exact cutL_join b _ (by simpa using h0) (fun x hx => by obtain ⟨y, hy, rfl⟩ := List.mem_map.1 hx; exact hf y hy)
theorem index_app (c : UInt8) : ∀ (x l : List UInt8), c ∉ x → Lib.index (x ++ c :: l) [c] = (x.length : Nat)
  | [], l, _ => by rw [List.nil_append, Lib.index]; simp [List.isPrefixOf]
  | a :: x, l, h => by
    have ha : a ≠ c := fun e => h (by simp [e])
    have hp : ([c] : List UInt8).isPrefixOf (a :: (x ++ c :: l)) = false := by simp [List.isPrefixOf, Ne.symm ha]
    rw [List.cons_append, Lib.index, hp, index_app c x l (fun hm => h (List.mem_cons_of_mem _ hm))]
    simp
theorem cut_app (c : UInt8) (x l : List UInt8) (h : c ∉ x) : Lib.cut (x ++ c :: l) [c] = (x, l, true) := by
  unfold Lib.cut
  rw [index_app c x l h, if_pos (by omega)]
  simp
theorem cut_len (s sep : List UInt8) : (Lib.cut s sep).1.length ≤ s.length ∧ (Lib.cut s sep).2.1.length ≤ s.length := by
  unfold Lib.cut
  split
  · simp; omega
  · simp
/-- Spec's own. -/
theorem spT_cut (t : ByteArray) (b : UInt8) : ∀ k, k ≤ t.size → cutL b (t.data.toList.take k) = (spT t (b.toNat : Int) k).1.map (·.data.toList) ++ [(t.data.toList.take k).drop (spT t (b.toNat : Int) k).2]
  | 0, _ => by simp [cutL, spT]
  | k + 1, h => by
    have ih := spT_cut t b k (by omega)
    have hk : k < t.size := by omega
    have hle := (spT_le t (b.toNat : Int) k).1
    rw [take_snoc t k hk]
    by_cases hb : (t[k].toNat : Int) = (b.toNat : Int)
    · have e : t[k] = b := by
        apply UInt8.toNat_inj.1
        omega
      rw [spT_hit hk hb, e, cutL_hit, ih]
      have e3 : (t.extract (spT t (b.toNat : Int) k).2 k).data.toList = List.drop (spT t (b.toNat : Int) k).2 (List.take k t.data.toList) := by
        rw [ByteArray.data_extract, Array.toList_extract, List.extract_eq_take_drop, List.drop_take]
      have e4 : List.drop (k + 1) (List.take k t.data.toList ++ [b]) = [] := List.drop_eq_nil_of_le (by simp; omega)
      dsimp only
      rw [e4, List.map_append, List.map_cons, List.map_nil, e3]
    · have hc : t[k] ≠ b := fun e => hb (by rw [e])
      rw [spT_miss hk hb, cutL_miss b hc _ _ _ ih, List.drop_append_of_le_length (by simp; omega)]
theorem splitT_cut (t : ByteArray) (b : UInt8) : splitT t (b.toNat : Int) = cutB b t := by
  apply map_data_inj
  have h := spT_cut t b t.size (Nat.le_refl _)
  have hl : t.data.toList.take t.size = t.data.toList := List.take_of_length_le (by simp)
  rw [hl] at h
  rw [cutB_data, h, splitT, List.map_append]
  congr 1
  have e3 : (t.extract (spT t (b.toNat : Int) t.size).2 t.size).data.toList = List.drop (spT t (b.toNat : Int) t.size).2 t.data.toList := by
    rw [ByteArray.data_extract, Array.toList_extract, List.extract_eq_take_drop]
    exact List.take_of_length_le (by simp)
  rw [List.map_cons, List.map_nil, e3]
end Go.Proofs.YtihlilihipcfaaaGreatDoor
namespace Go.Proofs.YtihlilihipcfaaaGreatDoor
open Go.ChangeShapes Go.WideShapes Go.ChangeAt Go.RowKit Go.ChangeMaps
set_option maxRecDepth 10000
set_option linter.unusedSimpArgs false
set_option linter.unusedVariables false

/-- How many letters. -/
def totS (l : List ByteArray) : Nat := (l.map fun x => x.size).sum
theorem totS_take_succ {l : List ByteArray} {k : Nat} {x : ByteArray} (h : l[k]? = some x) : totS (l.take (k + 1)) = totS (l.take k) + x.size := by
  rw [List.take_add_one, h]
  simp [totS]
theorem totS_take_le (l : List ByteArray) (k : Nat) : totS (l.take k) ≤ totS l := by
  have e : totS l = totS (l.take k) + totS (l.drop k) := by
    unfold totS
    rw [← List.sum_append, ← List.map_append, List.take_append_drop]
  omega
/-- What is left of n behind a list. -/
def leftS (n : Int) (l : List ByteArray) : Int := if n < (l.length + totS l : Nat) then -1 else n - (l.length + totS l : Nat)

set_option maxHeartbeats 1000000 in
theorem eqStringS_same (l : List ByteArray) (A A' : Option Addr) (n cap cap' : Nat) (w : World) (hn : l.length = n) (hl : Lies w w.heap.size 1 A n (strsC l)) (hl' : Lies w w.heap.size 1 A' n (strsC l)) (hm : n ≤ 1099511627) :
    Calls Tryz.prog 104 #[.slice A n cap, .slice A' n cap'] w fun e w' => e = .returned (.bool true) ∧ Below w.heap.size w w' := by
  have HN := Lib.hid hn
  clear hn
  go_enter Tryz.func104, Tryz.ntmps104
  go_wp2
  go_loopw [5] (fun i wr => ∃ k : Nat, k ≤ n ∧ i = .int .i64 k ∧ Below w.heap.size w wr) (fun i _ => n - (intOf i).toNat)
  case atStart => exact ⟨0, Nat.zero_le _, rfl, Below.refl _ _⟩
  case round =>
    obtain ⟨k, hk, rfl, hB⟩ := hrel
    by_cases hlt : k < n
    · obtain ⟨b, off, x, rfl, hlb, hx, c0⟩ := (hl.below hB).str hlt
      obtain ⟨b', off', x', rfl, hlb', hx', d0⟩ := (hl'.below hB).str hlt
      obtain rfl : x' = x := Option.some.inj (hx'.symm.trans hx)
      have hz := hB.size
      have hBd := hB.drew
      clear hx hx' hl hl'
      go_wp2_with fail
      go_region_held3 (fun W => W.cell? ⟨b, off + k, none⟩ = some (.string x') ∧ W.cell? ⟨b', off' + k, none⟩ = some (.string x') ∧ Below w.heap.size w W ∧ w.heap.size ≤ W.heap.size)
        (go_keep) (fail)
      rename_i hHeld
      obtain ⟨-, -, hB, -⟩ := hHeld
      go_wp2_with fail
      go_roundw
      case rel => exact ⟨k + 1, by omega, by go_num, hB⟩
      case measure => simp [intOf]; omega
    · obtain rfl : k = n := by omega
      clear hl hl'
      go_wp2
      go_ret
      exact ⟨rfl, hB⟩
end Go.Proofs.YtihlilihipcfaaaGreatDoor
namespace Go.Proofs.YtihlilihipcfaaaGreatDoor
open Go.ChangeShapes Go.WideShapes Go.ChangeAt Go.RowKit Go.ChangeMaps
set_option maxRecDepth 10000
set_option linter.unusedSimpArgs false

def inB (n lo hi : Int) : Bool := decide (lo ≤ n) && decide (n ≤ hi)

set_option maxHeartbeats 400000 in
theorem l02Is_any (n lo hi : Int) (w : World) : Calls Tryz.prog 56 #[.int .i64 n, .int .i64 lo, .int .i64 hi] w fun e w' => e = .returned (.bool (inB n lo hi)) ∧ w = w' := by
  go_enter Tryz.func56, Tryz.ntmps56
  go_wp2
  all_goals go_ret
  · have h : lo ≤ n := by assumption
    exact ⟨ret_bool (by simp [inB, h]), rfl⟩
  · have h : n < lo := by assumption
    exact ⟨ret_bool (by simp [inB]; omega), rfl⟩
end Go.Proofs.YtihlilihipcfaaaGreatDoor
namespace Go.Proofs.YtihlilihipcfaaaGreatDoor
open Go.ChangeShapes Go.WideShapes Go.ChangeAt Go.RowKit Go.ChangeMaps
set_option maxRecDepth 10000
set_option linter.unusedSimpArgs false

def seatB (r c : Int) : Bool := decide (1 ≤ r ∧ r ≤ 20 ∧ 0 ≤ c ∧ c ≤ 5)
/-- A seat, as a value. -/
abbrev seatV (r c : Int) : Value := .agg #[.int .i64 r, .int .i64 c]

set_option maxHeartbeats 400000 in
theorem iSeatRight_any (r c : Int) (w : World) : Calls Tryz.prog 111 #[seatV r c] w fun e w' => e = .returned (.bool (seatB r c)) ∧ Below w.heap.size w w' := by
  go_enter Tryz.func111, Tryz.ntmps111
  go_wp2
  all_goals
    go_ret
    refine ⟨ret_bool ?_, by go_grown⟩
    rw [Bool.eq_iff_iff]
    simp [seatB]
    try omega


theorem inB_yes {n lo hi : Int} (h : lo ≤ n ∧ n ≤ hi) : inB n lo hi = true := by simp [inB, h.1, h.2]
theorem inB_no {n lo hi : Int} (h : ¬ (lo ≤ n ∧ n ≤ hi)) : inB n lo hi = false := by simp [inB]; omega

set_option maxHeartbeats 400000 in
theorem sSeatRight_any (r c : Int) (w : World) : Calls Tryz.prog 60 #[seatV r c] w fun e w' => e = .returned (.bool (seatB r c)) ∧ Below w.heap.size w w' := by
  by_cases hr : 1 ≤ r ∧ r ≤ 20
  · have h1 := inB_yes hr
    go_enter Tryz.func60, Tryz.ntmps60
    go_wp2_with (go_at_call 56; refine (l02Is_any _ _ _ _).mono ?_; rintro e w' ⟨rfl, rfl⟩)
    go_ret
    refine ⟨ret_bool ?_, by go_grown⟩
    rw [Bool.eq_iff_iff]
    simp [inB, seatB]
    omega
  · have h1 := inB_no hr
    go_enter Tryz.func60, Tryz.ntmps60
    go_wp2_with (go_at_call 56; refine (l02Is_any _ _ _ _).mono ?_; rintro e w' ⟨rfl, rfl⟩)
    go_ret
    refine ⟨ret_bool ?_, by go_grown⟩
    rw [Bool.eq_iff_iff]
    simp [seatB]
    try omega

end Go.Proofs.YtihlilihipcfaaaGreatDoor
namespace Go.Proofs.YtihlilihipcfaaaGreatDoor
open Go.ChangeShapes Go.WideShapes Go.ChangeAt Go.RowKit Go.ChangeMaps
set_option maxRecDepth 10000
set_option linter.unusedSimpArgs false
set_option linter.unusedVariables false

set_option maxHeartbeats 400000 in
theorem eqSeat_same (r c : Int) (w : World) : Calls Tryz.prog 94 #[seatV r c, seatV r c] w fun e w' => e = .returned (.bool true) ∧ Below w.heap.size w w' := by
  go_enter Tryz.func94, Tryz.ntmps94
  go_wp2
  go_ret
  exact ⟨rfl, by go_grown⟩
end Go.Proofs.YtihlilihipcfaaaGreatDoor
