/-
  Tokens in a map by their numbers: what it reads as; impl.tokensByNo.
-/
import Derived.Test.YtjgcanhaelabaaaDoorTokOk
import Derived.Maps.Own
import Derived.Maps.OwnOps
import Derived.Maps.OwnSet
import Derived.Maps.Views
namespace Go.Proofs.YtjgcanhaelabaaaDoor
open Go.ChangeShapes Go.WideShapes Go.ChangeAt Go.RowKit Go.ChangeMaps Go.Maps
set_option maxRecDepth 10000
set_option linter.unusedSimpArgs false
set_option linter.unusedVariables false

abbrev tk0 : TK := ⟨0, 0, 0, 0⟩
abbrev tkV (x : TK) : Value := tokV x.n x.h x.r x.t

theorem toks_at {l : List TK} (h : toksOkB l = true) {k : Nat} {x : TK} (hx : l[k]? = some x) : (1 ≤ x.n ∧ x.n ≤ 999) ∧ (0 < k → (tAt l (k - 1)).n < x.n) ∧ grantB x.h x.r x.t = true := by
  have hk := (List.getElem?_eq_some_iff.1 hx).1
  have h1 := List.all_eq_true.1 ((Bool.and_eq_true _ _).mp h).2 k (List.mem_range.2 hk)
  rw [tkAt, tAt_of hx] at h1
  simp [inB] at h1
  exact ⟨h1.1, fun h0 => by rcases h1.2.1 with h2 | h2; omega; exact h2, h1.2.2⟩
theorem toks_rise {l : List TK} (h : toksOkB l = true) : ∀ (d i : Nat) (x y : TK), l[i]? = some x → l[i + d + 1]? = some y → x.n < y.n
  | 0, i, x, y, hx, hy => by
    have := (toks_at h hy).2.1 (by omega)
    rwa [show i + 0 + 1 - 1 = i by omega, tAt_of hx] at this
  | d + 1, i, x, y, hx, hy => by
    have hlt := (List.getElem?_eq_some_iff.1 hy).1
    obtain ⟨z, hz⟩ : ∃ z, l[i + d + 1]? = some z := ⟨_, List.getElem?_eq_getElem (by omega)⟩
    have h1 := toks_rise h d i x z hx hz
    have h2 := (toks_at h hy).2.1 (by omega)
    rw [show i + (d + 1) + 1 - 1 = i + d + 1 by omega, tAt_of hz] at h2
    omega
theorem toks_pair {l : List TK} (h : toksOkB l = true) : l.Pairwise (fun a b => a.n < b.n) := by
  rw [List.pairwise_iff_getElem]
  intro i j hi hj hij
  refine toks_rise h (j - i - 1) i _ _ (List.getElem?_eq_getElem hi) ?_
  rw [show i + (j - i - 1) + 1 = j by omega]
  exact List.getElem?_eq_getElem hj
theorem toks_len {l : List TK} (h : toksOkB l = true) : l.length ≤ 20 := of_decide_eq_true ((Bool.and_eq_true _ _).mp h).1

/-- The token of a number, or none's. -/
def findNo (l : List TK) (no : Int) : TK := (l.find? (fun x => x.n == no)).getD tk0
theorem findNo_mem {l : List TK} (hp : l.Pairwise (fun a b => a.n < b.n)) {x : TK} (hx : x ∈ l) : findNo l x.n = x := by
  induction l with
  | nil => cases hx
  | cons y l ih =>
    rw [List.pairwise_cons] at hp
    rcases List.mem_cons.1 hx with rfl | h
    · simp [findNo]
    · have := hp.1 x h
      have hne : (y.n == x.n) = false := by rw [beq_eq_false_iff_ne]; omega
      have := ih hp.2 h
      simpa [findNo, hne] using this
theorem findNo_none {l : List TK} {no : Int} (h : ∀ x ∈ l, x.n ≠ no) : findNo l no = tk0 := by
  have : l.find? (fun x => x.n == no) = none := List.find?_eq_none.2 fun x hx => by simpa using h x hx
  rw [findNo, this]
  rfl

def ent (x : TK) : Lit × DataW TK := (.int .i64 x.n, .held x)
def mapD (l : List TK) : DataW TK := .map (l.map ent)
theorem sameKey_int (a b : Int) : Lit.sameKey (.int .i64 a) (.int .i64 b) = decide (a = b) := by simp [Lit.sameKey]
theorem insert_last (x : Lit × DataW TK) : ∀ es : List (Lit × DataW TK), (∀ p ∈ es, x.1.before p.1 = false) → DataW.insert x es = es ++ [x]
  | [], _ => rfl
  | y :: r, h => by
    rw [DataW.insert, h y List.mem_cons_self]
    simp only [Bool.false_eq_true, if_false, List.cons_append]
    rw [insert_last x r fun p hp => h p (List.mem_cons_of_mem _ hp)]
theorem mapD_put {l : List TK} {x : TK} (h : ∀ y ∈ l, y.n < x.n) : (mapD l).put (.int .i64 x.n) (.held x) = mapD (l ++ [x]) := by
  have h1 : (l.map ent).filter (fun p => !p.1.sameKey (.int .i64 x.n)) = l.map ent := List.filter_eq_self.2 fun p hp => by
    obtain ⟨y, hy, rfl⟩ := List.mem_map.1 hp
    have := h y hy
    simp [ent, sameKey_int]
    omega
  show DataW.map (DataW.insert (.int .i64 x.n, .held x) ((l.map ent).filter (fun p => !p.1.sameKey (.int .i64 x.n)))) = _
  rw [h1, insert_last]
  · simp [mapD, ent]
  · intro p hp
    obtain ⟨y, hy, rfl⟩ := List.mem_map.1 hp
    have := h y hy
    simp [ent, Lit.before]
    omega
theorem mapD_at (l : List TK) (no : Int) : (mapD l).atKey (.int .i64 no) (.held tk0) = .held (findNo l no) := by
  induction l with
  | nil => rfl
  | cons y l ih =>
    have h1 : (mapD (y :: l)).atKey (.int .i64 no) (.held tk0) = if (ent y).1.sameKey (.int .i64 no) then (ent y).2 else (mapD l).atKey (.int .i64 no) (.held tk0) := by
      simp only [mapD, DataW.atKey, List.map_cons, List.find?_cons]
      cases (ent y).1.sameKey (.int .i64 no) <;> rfl
    have h2 : findNo (y :: l) no = if y.n == no then y else findNo l no := by
      simp only [findNo, List.find?_cons]
      cases y.n == no <;> rfl
    have e : (ent y).1.sameKey (.int .i64 no) = (y.n == no) := by
      rw [ent, sameKey_int, Bool.eq_iff_iff]
      simp
    rw [h1, h2, e, ih]
    cases y.n == no <;> rfl

/-- How such a token reads. -/
def tokRd : Value → Option (DataW TK × List MemPlace)
  | .agg ⟨[.int .i64 n, .int .i64 h, .int .i64 r, .int .i64 t]⟩ => some (.held ⟨n, h, r, t⟩, [])
  | _ => none
theorem tokRd_mk (x : TK) : tokRd (tkV x) = some (.held x, []) := rfl
theorem tokRd_inv {v : Value} {x : TK} {ps : List MemPlace} (h : tokRd v = some (.held x, ps)) : v = tkV x := by
  unfold tokRd at h
  split at h
  · simp at h
    obtain ⟨rfl, _⟩ := h
    rfl
  · cases h

theorem tokLaw : Keyed Tryd.prog 2 := int_keyed Tryd.underlying2
theorem keyOf_no {n : Int} (hw : (Lit.int .i64 n).wf = true) : keyOf Tryd.prog 2 (.int .i64 n) = some (.int .i64 n) := keyOf_int_mk Tryd.underlying2 hw
theorem wf_small {n : Int} (h : 1 ≤ n ∧ n ≤ 999) : (Lit.int .i64 n).wf = true := by simp [Lit.wf, IntKind.min, IntKind.max, IntKind.signed, IntKind.bits]; omega
theorem zeroTok (w : World) : (zeroValue 39).run Tryd.prog w = .ok (tkV tk0) w := by kernel_rfl
theorem run_makeMap_hintT {P : Program} (t k e : TypeId) (kd : IntKind) (n : Int) (ht : P.underlying t = some (.map k e)) (w : World) :
    (Instr.makeMap t (some (.int kd n))).run P w = .ok (.map (some w.heap.size)) (w.alloc (.map #[] 0)) := by
  simp [Instr.makeMap, run_underlying ht]; rfl

set_option maxHeartbeats 1000000 in
theorem tokensByNo_any (l : List TK) (A : Option Addr) (cap : Nat) (w : World) (hl : Lies w w.heap.size 4 A l.length (toksC l)) (ho : toksOkB l = true) :
    Calls Tryd.prog 35 #[.slice A l.length cap] w fun e w' => e = .returned (.map (some w.heap.size)) ∧ w'.ownsMap Tryd.prog 2 tokRd w.heap.size l.length (mapD l) ∧ Below w.heap.size w w' := by
  have hm := toks_len ho
  have HX : Hid (∀ (k : Nat) (x : TK), l[k]? = some x → (1 ≤ x.n ∧ x.n ≤ 999) ∧ ∀ y ∈ l.take k, y.n < x.n) := fun k x hx => ⟨(toks_at ho hx).1, fun y hy => by
    obtain ⟨j, hj, rfl⟩ := List.mem_iff_getElem.1 hy
    have hjk : j < k := by have := List.length_take_le k l; omega
    have hkl := (List.getElem?_eq_some_iff.1 hx).1
    rw [List.getElem_take]
    refine toks_rise ho (k - j - 1) j _ _ (List.getElem?_eq_getElem (by omega)) ?_
    rwa [show j + (k - j - 1) + 1 = k by omega]⟩
  have hmk := fun (n : Int) (W : World) => run_makeMap_hintT (P := Tryd.prog) 66 2 39 .i64 n Tryd.underlying66 W
  clear ho
  go_enter Tryd.func35, Tryd.ntmps35
  go_wp2_with fail
  clear hmk
  go_loopw [11] (fun i wr => ∃ k : Nat, k ≤ l.length ∧ i = .int .i64 (k : Int) ∧ wr.ownsMap Tryd.prog 2 tokRd w.heap.size k (mapD (l.take k)) ∧ Below w.heap.size w wr ∧ w.heap.size < wr.heap.size) (fun i _ => l.length - (intOf i).toNat)
  case atStart => exact ⟨0, Nat.zero_le _, rfl, World.ownsMap_made _ _ _ _, (Below.refl _ _).alloc (Nat.le_refl _) _, by simp⟩
  case round =>
    obtain ⟨k, hk, rfl, hown, hB, hlt⟩ := hrel
    by_cases hkM : k < l.length
    · obtain ⟨b, off, x, rfl, hlb, hx, c0, c1, c2, c3⟩ := (hl.below hB).tok hkM
      obtain ⟨hn, hrise⟩ := HX.out k x hx
      have HK := Lib.hid (keyOf_no (wf_small hn))
      have HP : Hid ((mapD (l.take k)).put (.int .i64 x.n) (.held x) = mapD (l.take (k + 1))) := by
        rw [Hid, mapD_put hrise, List.take_add_one, hx]
        rfl
      have HV : Hid (tokRd (tokV x.n x.h x.r x.t) = some (.held x, [])) := tokRd_mk x
      clear hx hl hrise
      go_wp2_with (first
        | (at_mapUpdate; refine wpList_mapUpdate_own _ rfl _ _ _ 66 rfl 2 39 tokLaw Tryd.underlying66 _ w.heap.size k _ rfl (hown.alloc _) (by unfold maxLen; omega) _ _ _ rfl rfl HK.out _ [] HV.out ?_; intro w2 hown2 hgrow2))
      go_roundw
      case rel => exact ⟨k + 1, by omega, by go_num, by rw [← HP.out]; exact hown2, (hB.alloc (by omega) _).grown hgrow2 (by simp; omega) (by intro x hx; cases hx; exact Nat.le_refl _), by have := hgrow2.size; simp at this; omega⟩
      case measure => simp [intOf]; omega
    · obtain rfl : k = l.length := by omega
      rw [List.take_length] at hown
      clear hl
      go_wp2_with fail
      go_ret
      exact ⟨rfl, hown, hB⟩

/-- .. and a look for one. -/
theorem tokensByNo_look (l : List TK) (A : Option Addr) (cap : Nat) (no : Int) (w : World) (hl : Lies w w.heap.size 4 A l.length (toksC l)) (ho : toksOkB l = true) (hw : (Lit.int .i64 no).wf = true) :
    Calls Tryd.prog 35 #[.slice A l.length cap] w fun e w' => (∃ b, e = .returned (.map (some b)) ∧ (Instr.lookup 66 (.map (some b)) (.int .i64 no) false).run Tryd.prog w' = .ok (tkV (findNo l no)) w') ∧ Below w.heap.size w w' := by
  refine (tokensByNo_any l A cap w hl ho).mono ?_
  rintro e w' ⟨he, hown, hb⟩
  refine ⟨⟨_, he, ?_⟩, hb⟩
  obtain ⟨v, ps, hrun, hv⟩ := hown.lookup tokLaw Tryd.underlying66 (zeroTok w') (tokRd_mk tk0) (keyOf_no hw)
  rw [mapD_at] at hv
  rw [tokRd_inv hv] at hrun
  exact hrun
end Go.Proofs.YtjgcanhaelabaaaDoor
