/-
  spec.l01Split: a text cut at each byte of a kind. A text cut at each byte of a kind: plain mathematics; the library's way and spec's are one. append and copy at elements of some cells each: the source whatever reads as a list, nil let in. Over any program. append as one step of a region that draws; what a block holds, read as a list. strconv.ParseInt(s, 10, 64): a number, or an error; the library's two sentinels as the row lists them. impl.tooLong. Numbers in digits, read: plain mathematics. l02Num: a number of at most nine digits, read.
-/
import Derived.Test.YtpncnkihfijmaaaGreatDoorM1
import Derived.Lib.SplitLaws
import Derived.Laws.CopyRow
import Derived.Lib.AppendZerosOnto
import Derived.Deep.RegionLaw
import Derived.Test.YtpncnkihfijmaaaGreatDoorShelfZ
import Derived.Lib.SmallJoins
import Derived.Stop.LaidErr
import Derived.LaidMore
import Derived.Shelf.Strconv.ErrVarParseInt
import Derived.Lib.ItoaNum
namespace Go.Proofs.YtpncnkihfijmaaaGreatDoor
open Go.ChangeShapes Go.WideShapes Go.ChangeAt Go.RowKit Go.ChangeMaps
set_option maxRecDepth 10000
set_option linter.unusedSimpArgs false
set_option linter.unusedVariables false

/-- The words that end ahead of byte k, and where the next begins. -/
def spT (t : ByteArray) (b : Int) : Nat → List ByteArray × Nat
  | 0 => ([], 0)
  | k + 1 => if h : k < t.size then (if (t[k].toNat : Int) = b then ((spT t b k).1 ++ [t.extract (spT t b k).2 k], k + 1) else spT t b k) else spT t b k
def splitT (t : ByteArray) (b : Int) : List ByteArray := (spT t b t.size).1 ++ [t.extract (spT t b t.size).2 t.size]
theorem spT_hit {t : ByteArray} {b : Int} {k : Nat} (h : k < t.size) (hb : (t[k].toNat : Int) = b) : spT t b (k + 1) = ((spT t b k).1 ++ [t.extract (spT t b k).2 k], k + 1) := by rw [spT, dif_pos h, if_pos hb]
theorem spT_miss {t : ByteArray} {b : Int} {k : Nat} (h : k < t.size) (hb : ¬ (t[k].toNat : Int) = b) : spT t b (k + 1) = spT t b k := by rw [spT, dif_pos h, if_neg hb]
theorem spT_le (t : ByteArray) (b : Int) : ∀ k, (spT t b k).2 ≤ k ∧ (spT t b k).1.length ≤ k
  | 0 => ⟨Nat.le_refl _, Nat.le_refl _⟩
  | k + 1 => by
    have ih := spT_le t b k
    by_cases h : k < t.size
    · by_cases hb : (t[k].toNat : Int) = b
      · rw [spT_hit h hb]
        simp
        omega
      · rw [spT_miss h hb]; omega
    · rw [spT, dif_neg h]; omega

def SplRel (t : ByteArray) (b : Int) (w : World) (v f i : Value) (W : World) : Prop :=
  ∃ (k : Nat) (A : Option Addr) (c : Nat), k ≤ t.size ∧ i = .int .i64 k ∧ f = .int .i64 ((spT t b k).2 : Nat) ∧ v = .slice A (spT t b k).1.length c ∧
    W.ownsRow w.heap.size 9 1 (.slice A (spT t b k).1.length c) (spT t b k).1.length (strsC (spT t b k).1) ∧ Below w.heap.size w W

set_option maxHeartbeats 4000000 in
theorem l01Split_any (t : ByteArray) (b : Int) (w : World) (ht : t.size ≤ 1048576) :
    Calls Tryz.prog 38 #[.string t, .int .u8 b] w fun e w' => ∃ (A : Option Addr) (c : Nat), e = .returned (.slice A (splitT t b).length c) ∧ w'.ownsRow w.heap.size 9 1 (.slice A (splitT t b).length c) (splitT t b).length (strsC (splitT t b)) ∧ Below w.heap.size w w' := by
  have HSp : Hid (splitT t b = (spT t b t.size).1 ++ [t.extract (spT t b t.size).2 t.size]) := rfl
  generalize splitT t b = R at *
  have hR0 : (w.alloc (.cells #[] 9)).ownsRow w.heap.size 9 1 (.slice (some ⟨w.heap.size, 0, none⟩) 0 0) 0 (strsC []) := by
    have := World.ownsRow_lit (base := w.heap.size) (e := 9) (size := 1) w #[] 0 (Nat.le_refl _) (by simp) rfl
    simpa [strsC] using this
  have hB0 : Below w.heap.size w (w.alloc (.cells #[] 9)) := (Below.refl _ w).alloc (Nat.le_refl _) _
  go_enter Tryz.func38, Tryz.ntmps38
  go_wp2_with fail
  go_loopw [5, 6, 7] (fun v f i W => SplRel t b w v f i W) (fun _ _ i _ => t.size - (intOf i).toNat)
  case atStart => exact ⟨0, _, 0, Nat.zero_le _, rfl, rfl, rfl, hR0, hB0⟩
  case round =>
    clear hR0 hB0
    obtain ⟨k, A, c, hk, rfl, rfl, rfl, hR, hB⟩ := hrel
    obtain ⟨hf, hn⟩ := spT_le t b k
    have hbs := hB.size
    by_cases hlt : k < t.size
    · by_cases hb : (t[k].toNat : Int) = b
      · have HH := Lib.hid (spT_hit hlt hb)
        generalize hws : (spT t b k).1 = ws at *
        generalize hfr : (spT t b k).2 = fr at *
        clear hws hfr
        go_wp2_with (at_builtin; refine wpList_append_elem Tryz.underlying37 info_str rfl (by decide) (by decide) w.heap.size _ _ _ rfl hR rfl rfl (fun u hu => strsC_one [t.extract fr k] u (by simpa [strsC] using hu)) (by omega) (by omega) ?_; intro v2 w4 hown2 hb2; obtain ⟨A2, c2', rfl, -, -⟩ := own_form hown2)
        go_roundw
        case rel => exact ⟨k + 1, A2, c2', by omega, by go_num, by rw [HH.out]; go_num, by rw [HH.out]; simp, by rw [HH.out]; simpa [strsC] using hown2, hB.trans hb2⟩
        case measure => simp [intOf]; omega
      · have HH := Lib.hid (spT_miss hlt hb)
        generalize hws : (spT t b k).1 = ws at *
        generalize hfr : (spT t b k).2 = fr at *
        go_wp2_with fail
        go_roundw
        case rel => exact ⟨k + 1, A, c, by omega, by go_num, by rw [HH.out, hfr], by rw [HH.out, hws], by rw [HH.out, hws]; exact hR, hB⟩
        case measure => simp [intOf]; omega
    · obtain rfl : k = t.size := by omega
      generalize (spT t b t.size).1 = ws at *
      generalize (spT t b t.size).2 = fr at *
      go_wp2_with (at_builtin; refine wpList_append_elem Tryz.underlying37 info_str rfl (by decide) (by decide) w.heap.size _ _ _ rfl hR rfl rfl (fun u hu => strsC_one [t.extract fr t.size] u (by simpa [strsC] using hu)) (by omega) (by omega) ?_; intro v2 w4 hown2 hb2; obtain ⟨A2, c2', rfl, -, -⟩ := own_form hown2)
      go_ret
      exact ⟨A2, c2', by rw [HSp.out]; simp, by rw [HSp.out]; simpa [strsC] using hown2, hB.trans hb2⟩
end Go.Proofs.YtpncnkihfijmaaaGreatDoor
namespace Go.Proofs.YtpncnkihfijmaaaGreatDoor
open Go.ChangeShapes Go.WideShapes Go.ChangeAt Go.RowKit Go.ChangeMaps
set_option maxRecDepth 10000

/-- A text cut at each b. -/
def cutL (b : UInt8) : List UInt8 → List (List UInt8)
  | [] => [[]]
  | c :: l => if c = b then [] :: cutL b l else match cutL b l with
    | [] => [[c]]
    | x :: r => (c :: x) :: r
/-- .. and put together again. -/
def joinL (b : UInt8) : List (List UInt8) → List UInt8
  | [] => []
  | [x] => x
  | x :: y :: r => x ++ b :: joinL b (y :: r)

theorem cutL_ne (b : UInt8) (l : List UInt8) : cutL b l ≠ [] := by
  cases l with
  | nil => simp [cutL]
  | cons c l =>
    rw [cutL]
    split
    · simp
    · split <;> simp
theorem cutL_app (b : UInt8) : ∀ (x l : List UInt8), b ∉ x → cutL b (x ++ b :: l) = x :: cutL b l
  | [], l, _ => by simp [cutL]
  | c :: x, l, h => by
    have hc : c ≠ b := fun e => h (by simp [e])
    rw [List.cons_append, cutL, if_neg hc, cutL_app b x l (fun hm => h (List.mem_cons_of_mem _ hm))]
theorem cutL_free (b : UInt8) : ∀ x : List UInt8, b ∉ x → cutL b x = [x]
  | [], _ => rfl
  | c :: x, h => by
    have hc : c ≠ b := fun e => h (by simp [e])
    rw [cutL, if_neg hc, cutL_free b x (fun hm => h (List.mem_cons_of_mem _ hm))]
theorem cutL_join (b : UInt8) : ∀ ws : List (List UInt8), ws ≠ [] → (∀ x ∈ ws, b ∉ x) → cutL b (joinL b ws) = ws
  | [], h, _ => absurd rfl h
  | [x], _, h => cutL_free b x (h x (by simp))
  | x :: y :: r, _, h => by
    rw [joinL, cutL_app b x _ (h x (by simp)), cutL_join b (y :: r) (by simp) (fun z hz => h z (List.mem_cons_of_mem _ hz))]
theorem joinL_snoc (b : UInt8) : ∀ (ws : List (List UInt8)) (x : List UInt8), ws ≠ [] → joinL b (ws ++ [x]) = joinL b ws ++ b :: x
  | [], _, h => absurd rfl h
  | [y], x, _ => rfl
  | y :: z :: r, x, _ => by
    have ih := joinL_snoc b (z :: r) x (by simp)
    rw [List.cons_append] at ih
    rw [List.cons_append, List.cons_append, joinL, joinL, ih]
    simp
theorem joinL_more (b : UInt8) : ∀ (xs ws : List (List UInt8)), ws ≠ [] → joinL b (ws ++ xs) = xs.foldl (fun t x => t ++ b :: x) (joinL b ws)
  | [], ws, _ => by simp
  | x :: xs, ws, h => by
    rw [List.foldl_cons, ← joinL_snoc b ws x h, ← joinL_more b xs (ws ++ [x]) (by simp)]
    simp
theorem cutL_hit (b : UInt8) : ∀ l : List UInt8, cutL b (l ++ [b]) = cutL b l ++ [[]]
  | [] => by simp [cutL]
  | c :: l => by
    by_cases hc : c = b
    · rw [List.cons_append, cutL, if_pos hc, cutL, if_pos hc, cutL_hit b l]
      rfl
    · rw [List.cons_append, cutL, if_neg hc, cutL, if_neg hc, cutL_hit b l]
      have h := cutL_ne b l
      generalize cutL b l = L at *
      cases L with
      | nil => exact absurd rfl h
      | cons x r => rfl
theorem cutL_miss (b : UInt8) {c : UInt8} (hc : c ≠ b) : ∀ (l : List UInt8) (pre : List (List UInt8)) (x : List UInt8), cutL b l = pre ++ [x] → cutL b (l ++ [c]) = pre ++ [x ++ [c]]
  | [], pre, x, h => by
    have e : pre = [] ∧ x = [] := by
      cases pre with
      | nil => simpa [cutL] using h
      | cons p q => simp [cutL] at h
    obtain ⟨rfl, rfl⟩ := e
    simp [cutL, hc]
  | a :: l, pre, x, h => by
    by_cases ha : a = b
    · rw [cutL, if_pos ha] at h
      rw [List.cons_append, cutL, if_pos ha]
      cases pre with
      | nil =>
        have h2 := congrArg List.length h
        have h3 := cutL_ne b l
        simp at h2
        exact absurd h2 h3
      | cons p q =>
        rw [List.cons_append] at h
        injection h with h1 h2
        rw [cutL_miss b hc l q x h2, ← h1]
        rfl
    · rw [cutL, if_neg ha] at h
      rw [List.cons_append, cutL, if_neg ha]
      have h3 := cutL_ne b l
      cases hL : cutL b l with
      | nil => exact absurd hL h3
      | cons y r =>
        rw [hL] at h
        dsimp only at h
        cases pre with
        | nil =>
          rw [List.nil_append] at h
          injection h with h1 h2
          subst h2 h1
          rw [cutL_miss b hc l [] y (by rw [hL]; rfl)]
          rfl
        | cons p q =>
          rw [List.cons_append] at h
          injection h with h1 h2
          subst h1
          rw [cutL_miss b hc l (y :: q) x (by rw [hL, h2]; rfl)]
          rfl

/-- The library's own. -/
theorem splitK_cons (c a : UInt8) (l : List UInt8) (h : a ≠ c) : ∀ k, Lib.splitK [c] 0 k (a :: l) = match Lib.splitK [c] 0 k l with
    | [] => [[a]]
    | x :: r => (a :: x) :: r := by
  have hp : ([c] : List UInt8).isPrefixOf (a :: l) = false := by simp [List.isPrefixOf, Ne.symm h]
  have hix : Lib.index (a :: l) [c] = if Lib.index l [c] == -1 then -1 else Lib.index l [c] + 1 := by rw [Lib.index, hp]; simp
  intro k
  cases k with
  | zero => rfl
  | succ k =>
    unfold Lib.splitK
    by_cases hm : Lib.index l [c] = -1
    · have e1 : Lib.index (a :: l) [c] = -1 := by rw [hix, if_pos (beq_iff_eq.2 hm)]
      rw [if_pos (beq_iff_eq.2 e1), if_pos (beq_iff_eq.2 hm)]
    · have hge := Lib.index_ge l [c]
      obtain ⟨j, hj⟩ : ∃ j : Nat, Lib.index l [c] = j := ⟨(Lib.index l [c]).toNat, by omega⟩
      have e1 : Lib.index (a :: l) [c] = ((j + 1 : Nat) : Int) := by rw [hix, if_neg (fun e => hm (beq_iff_eq.1 e)), hj]; omega
      rw [if_neg (fun e => by have := beq_iff_eq.1 e; omega), if_neg (fun e => hm (beq_iff_eq.1 e)), e1, hj]
      simp
theorem splitK_cut (c : UInt8) : ∀ l : List UInt8, Lib.splitK [c] 0 (Lib.count l [c]) l = cutL c l
  | [] => by rw [Lib.count_one]; rfl
  | a :: l => by
    by_cases h : a = c
    · subst h
      have hix : Lib.index (a :: l) [a] = ((0 : Nat) : Int) := by rw [Lib.index]; simp [List.isPrefixOf]
      rw [Lib.count_cons_eq, Nat.add_comm, cutL, if_pos rfl, Lib.splitK, if_neg (by rw [hix]; simp), hix]
      simp
      exact splitK_cut a l
    · rw [Lib.count_cons_ne a c l h, splitK_cons c a l h, splitK_cut c l, cutL, if_neg h]

/-- A text cut, as texts. -/
def cutB (b : UInt8) (s : ByteArray) : List ByteArray := (cutL b s.data.toList).map fun l => ⟨l.toArray⟩
theorem map_data_inj : ∀ {a b : List ByteArray}, a.map (·.data.toList) = b.map (·.data.toList) → a = b
  | [], [], _ => rfl
  | [], _ :: _, h => by simp at h
  | _ :: _, [], h => by simp at h
  | x :: a, y :: b, h => by
    simp only [List.map_cons, List.cons.injEq] at h
    rw [ByteArray.ext (Array.toList_inj.1 h.1), map_data_inj h.2]
theorem cutB_data (b : UInt8) (s : ByteArray) : (cutB b s).map (·.data.toList) = cutL b s.data.toList := by
  rw [cutB, List.map_map]
  exact (List.map_congr_left (fun x _ => rfl)).trans (List.map_id _)
theorem splitB_cut (c : UInt8) (s : ByteArray) : Lib.splitB ⟨#[c]⟩ 0 (Lib.countB s ⟨#[c]⟩) s = cutB c s := by
  apply map_data_inj
  rw [Lib.splitB_data, cutB_data]
  exact splitK_cut c s.data.toList
theorem cutB_join (b : UInt8) (s : ByteArray) (ws : List ByteArray) (h0 : ws ≠ []) (hf : ∀ x ∈ ws, b ∉ x.data.toList) (hs : s.data.toList = joinL b (ws.map (·.data.toList))) : cutB b s = ws := by
  apply map_data_inj
  rw [cutB_data, hs]
  exact cutL_join b _ (by simpa using h0) (fun x hx => by obtain ⟨y, hy, rfl⟩ := List.mem_map.1 hx; exact hf y hy)
theorem index_app (c : UInt8) : ∀ (x l : List UInt8), c ∉ x → Lib.index (x ++ c :: l) [c] = (x.length : Nat)
  | [], l, _ => by rw [List.nil_append, Lib.index]; simp [List.isPrefixOf]
  | a :: x, l, h => by
    have ha : a ≠ c := fun e => h (by simp [e])
    have hp : ([c] : List UInt8).isPrefixOf (a :: (x ++ c :: l)) = false := by simp [List.isPrefixOf, Ne.symm ha]
    rw [List.cons_append, Lib.index, hp, index_app c x l (fun hm => h (List.mem_cons_of_mem _ hm))]
    simp
theorem cut_app (c : UInt8) (x l : List UInt8) (h : c ∉ x) : Lib.cut (x ++ c :: l) [c] = (x, l, true) := by
  unfold Lib.cut
  rw [index_app c x l h, if_pos (by omega)]
  simp
theorem cut_len (s sep : List UInt8) : (Lib.cut s sep).1.length ≤ s.length ∧ (Lib.cut s sep).2.1.length ≤ s.length := by
  unfold Lib.cut
  split
  · simp; omega
  · simp
/-- Spec's own. -/
theorem spT_cut (t : ByteArray) (b : UInt8) : ∀ k, k ≤ t.size → cutL b (t.data.toList.take k) = (spT t (b.toNat : Int) k).1.map (·.data.toList) ++ [(t.data.toList.take k).drop (spT t (b.toNat : Int) k).2]
  | 0, _ => by simp [cutL, spT]
  | k + 1, h => by
    have ih := spT_cut t b k (by omega)
    have hk : k < t.size := by omega
    have hle := (spT_le t (b.toNat : Int) k).1
    rw [take_snoc t k hk]
    by_cases hb : (t[k].toNat : Int) = (b.toNat : Int)
    · have e : t[k] = b := by
        apply UInt8.toNat_inj.1
        omega
      rw [spT_hit hk hb, e, cutL_hit, ih]
      have e3 : (t.extract (spT t (b.toNat : Int) k).2 k).data.toList = List.drop (spT t (b.toNat : Int) k).2 (List.take k t.data.toList) := by
        rw [ByteArray.data_extract, Array.toList_extract, List.extract_eq_take_drop, List.drop_take]
      have e4 : List.drop (k + 1) (List.take k t.data.toList ++ [b]) = [] := List.drop_eq_nil_of_le (by simp; omega)
      dsimp only
      rw [e4, List.map_append, List.map_cons, List.map_nil, e3]
    · have hc : t[k] ≠ b := fun e => hb (by rw [e])
      rw [spT_miss hk hb, cutL_miss b hc _ _ _ ih, List.drop_append_of_le_length (by simp; omega)]
theorem splitT_cut (t : ByteArray) (b : UInt8) : splitT t (b.toNat : Int) = cutB b t := by
  apply map_data_inj
  have h := spT_cut t b t.size (Nat.le_refl _)
  have hl : t.data.toList.take t.size = t.data.toList := List.take_of_length_le (by simp)
  rw [hl] at h
  rw [cutB_data, h, splitT, List.map_append]
  congr 1
  have e3 : (t.extract (spT t (b.toNat : Int) t.size).2 t.size).data.toList = List.drop (spT t (b.toNat : Int) t.size).2 t.data.toList := by
    rw [ByteArray.data_extract, Array.toList_extract, List.extract_eq_take_drop]
    exact List.take_of_length_le (by simp)
  rw [List.map_cons, List.map_nil, e3]
end Go.Proofs.YtpncnkihfijmaaaGreatDoor
namespace Go.Proofs.YtpncnkihfijmaaaGreatDoor
open Go.ChangeShapes Go.WideShapes Go.ChangeAt Go.RowKit Go.ChangeMaps
set_option maxRecDepth 10000
set_option linter.unusedSimpArgs false
set_option linter.unusedVariables false

section
variable {P : Program} {w : World} {ops : Array Oper} {rest : List Oper} {a : Act} {Q : Exit → Act → World → Prop}

theorem run_append_nil {base t ty e : Nat} {i : TypeInfo} {k n : Nat} {v : Value} {xs : List Value} (ht : P.underlying t = some (.slice e)) (hi : P.info? e = some i) (hown : w.ownsRow base e k v n xs) (c : Nat) :
    (Builtin.append_ #[t, t] ty #[v, .slice none 0 c]).run P w = .ok v w := by
  rcases hown.2 with ⟨rfl, rfl⟩ | ⟨g, cap, cur, rfl, _, _, hnc, _⟩
  · simp [Builtin.append_, run_underlying ht, sizeOf, typeInfo, hi, Builtin.lenOf, Builtin.firstCells]
  · simp [Builtin.append_, run_underlying ht, sizeOf, typeInfo, hi, Builtin.lenOf, Builtin.firstCells, hnc, storeCells]

/-- What append leaves: a row of one's own, the longer one. -/
theorem run_append_lies {base t ty e : Nat} {z : Value} {k bytes n m c B : Nat} {v : Value} {xs news : List Value} {A : Option Addr} (ht : P.underlying t = some (.slice e)) (hi : (P.info? e).map (fun i => (i.zero, i.size, i.bytes)) = some (some z, k, bytes)) (hzs : z.cells.size = k) (hk : 0 < k) (hby : bytes ≤ 1000)
    (hown : w.ownsRow base e k v n xs) (hl : Lies w B k A m news) (h1 : ∀ u ∈ news, u.oneCell' = true) (hlen : n + m ≤ 1099511627) (hbase : base ≤ w.heap.size) :
    ∃ v' w', (Builtin.append_ #[t, t] ty #[v, .slice A m c]).run P w = .ok v' w' ∧ w'.ownsRow base e k v' (n + m) (xs ++ news) ∧ w.grownBy w' v.ownBlock := by
  obtain ⟨i0, hi0, hz0, hz1, hz2⟩ := info_parts hi
  have hb : (n + m) * bytes ≤ 140737488355328 := Nat.le_trans (Nat.mul_le_mul_left _ hby) (by omega)
  cases A with
  | none =>
    have hm : m = 0 := by
      rcases Nat.eq_zero_or_pos m with h0 | h0
      · exact h0
      · obtain ⟨b, off, h, _⟩ := hl.2 h0
        cases h
    subst hm
    have hn : news = [] := List.eq_nil_of_length_eq_zero (by simpa using hl.1)
    subst hn
    exact ⟨v, w, run_append_nil ht hi0 hown c, by simpa using hown, World.grownBy.refl w _⟩
  | some ad =>
    have hnews : ∀ j u, news[j]? = some u → w.cell? (ad.add j) = some u := fun j u hu => by
      have hm : 0 < m := by
        rcases Nat.eq_zero_or_pos m with h0 | h0
        · have hle := hl.1
          rw [h0, Nat.zero_mul] at hle
          rw [List.eq_nil_of_length_eq_zero hle] at hu
          cases hu
        · exact h0
      obtain ⟨b, off, he, _, hc⟩ := hl.2 hm
      cases he
      rw [Go.WideShapes.add_plain]
      exact hc j u hu
    obtain ⟨v', w', hr, h2, h3, _⟩ := run_append_own w base t ty e i0 z k bytes ht hi0 hz0 hz1 hz2 hzs hk v n xs hown ad m c news hl.1 hnews h1 (by unfold maxLen; omega) hb hbase
    exact ⟨v', w', hr, h2, h3⟩

/-- append(out, xs...). -/
theorem wpList_append_lies {dst : Option Tmp} {ty : TypeId} {pos : String} {after : Array Edge} {s x : Operand} {t e : TypeId} {z : Value} {k bytes : Nat}
    (ht : P.underlying t = some (.slice e)) (hi : (P.info? e).map (fun i => (i.zero, i.size, i.bytes)) = some (some z, k, bytes)) (hzs : z.cells.size = k) (hk : 0 < k) (hby : bytes ≤ 1000)
    (base : Nat) (v : Value) (n : Nat) (xs : List Value) (hs : a.eval s = v) (hown : w.ownsRow base e k v n xs) (B : Nat) (A : Option Addr) (m c : Nat) (news : List Value) (hx : a.eval x = .slice A m c) (hl : Lies w B k A m news)
    (h1 : ∀ u ∈ news, u.oneCell' = true) (hlen : n + m ≤ 1099511627) (hbase : base ≤ w.heap.size)
    (h : ∀ v' w', w'.ownsRow base e k v' (n + m) (xs ++ news) → w.grownBy w' v.ownBlock → wpList P ops Q rest (a.put dst v') w') :
    wpList P ops Q (⟨dst, .call { callee := .builtin .append, args := #[s, x], argTypes := #[t, t] }, ty, pos, after, none⟩ :: rest) a w := by
  obtain ⟨v', w', hr, h2, h3⟩ := run_append_lies (ty := ty) (c := c) ht hi hzs hk hby hown hl h1 hlen hbase
  refine wpList_plain rfl fun K hK => ?_
  unfold Oper.wp
  simp [execOp, resolve, invoke, builtin, hs, hx, hr, Result.andThen]
  exact hK _ _ (h v' w' h2 h3)

/-- What append of one value leaves, which lies in a block that was laid for it. -/
theorem run_append_last {wr : World} {base t ty e e' : Nat} {z : Value} {k bytes n : Nat} {v : Value} {xs : List Value} {cs : Array Value} (ht : P.underlying t = some (.slice e)) (hi : (P.info? e).map (fun i => (i.zero, i.size, i.bytes)) = some (some z, k, bytes)) (hzs : z.cells.size = k) (hk : 0 < k) (hby : bytes ≤ 1000)
    (hown : wr.ownsRow base e k v n xs) (hcs : cs.size = k) (h1 : ∀ u ∈ cs.toList, u.oneCell' = true) (hlen : n + 1 ≤ 1099511627) (hbase : base ≤ wr.heap.size) :
    ∃ v' w', (Builtin.append_ #[t, t] ty #[v, .slice (some ⟨wr.heap.size, 0, none⟩) 1 1]).run P (wr.alloc (.cells cs e')) = .ok v' w' ∧ w'.ownsRow base e k v' (n + 1) (xs ++ cs.toList) ∧ (wr.alloc (.cells cs e')).grownBy w' v.ownBlock :=
  run_append_lies (B := wr.heap.size + 1) ht hi hzs hk hby (hown.alloc _) ⟨by simp [hcs], fun _ => ⟨wr.heap.size, 0, rfl, by omega, fun j u hu => by
    rw [Nat.zero_add, cell_of_row _ wr.heap.size j cs e' (0, 0) (heap_alloc_new wr _)]
    simpa using hu⟩⟩ h1 hlen (by simp; omega)
end

section
variable {P : Program}
/-- copy(d, s), d a cut of a row that is known whole, elements of k cells. -/
theorem run_copy_k (w : World) (dT sT ty elem : TypeId) (g o dLen dCap : Nat) (a : Addr) (sLen sCap k : Nat) (cur : Array Value) (t : TypeId) (cs : List Value)
    (hu : P.underlying dT = some (.slice elem)) (hs : (P.info? elem).map (·.size) = some k)
    (hg : w.heap[g]? = some (.cells cur t (0, 0))) (hn : cs.length = Nat.min sLen dLen * k)
    (hsrc : ∀ j v, cs[j]? = some v → w.cell? (a.add j) = some v) (hfit : o + cs.length ≤ cur.size) (h1 : ∀ v ∈ cs, v.oneCell' = true) :
    (Builtin.copy_ #[dT, sT] ty #[.slice (some ⟨g, o, none⟩) dLen dCap, .slice (some a) sLen sCap]).run P w =
      .ok (goInt (Nat.min sLen dLen)) (w.setRow g (cur.toList.take o ++ cs ++ cur.toList.drop (o + cs.length)).toArray) := by
  have hl := run_loadCells_list (P := P) w a cs hsrc
  have hst := run_storeCells_at P g o t cs 0 cur w hg (by simpa using hfit) h1
  cases hq : P.info? elem with
  | none => simp [hq] at hs
  | some i =>
    have hi : i.size = k := by simpa [hq] using hs
    simp [Builtin.copy_, run_underlying hu, Builtin.lenOf, Builtin.firstCells, sizeOf, typeInfo, hq, hi, ← hn, hl, hst]
end
end Go.Proofs.YtpncnkihfijmaaaGreatDoor
namespace Go.Proofs.YtpncnkihfijmaaaGreatDoor
open Go.ChangeShapes Go.WideShapes Go.ChangeAt Go.RowKit Go.ChangeMaps
set_option maxRecDepth 10000
set_option linter.unusedSimpArgs false
set_option linter.unusedVariables false

/-- append as one step of a region that draws. -/
theorem step_app {P : Program} {ops : Array Oper} {o : Oper} {a : Act} {w : World} {K : Act → World → Prop} {Q : Exit → Act → World → Prop} {E : Prop} (hg : o.guard = none) (s x : Operand) (t : TypeId) (hop : o.op = Op.call { callee := Callee.builtin Builtin.append, args := #[s, x], argTypes := #[t, t] })
    {e : TypeId} {z : Value} {k bytes : Nat} (ht : P.underlying t = some (.slice e)) (hi : (P.info? e).map (fun i => (i.zero, i.size, i.bytes)) = some (some z, k, bytes)) (hzs : z.cells.size = k) (hk : 0 < k) (hby : bytes ≤ 1000)
    {base n : Nat} {v : Value} {xs : List Value} (hown : w.ownsRow base e k v n xs) (hs : a.eval s = v) {B m c : Nat} {A : Option Addr} {news : List Value} (hl : Lies w B k A m news) (hx : a.eval x = .slice A m c)
    (h1 : ∀ u ∈ news, u.oneCell' = true) (hlen : n + m ≤ 1099511627) (hbase : base ≤ w.heap.size)
    (h : ∀ A' c' w', w'.ownsRow base e k (.slice A' (n + m) c') (n + m) (xs ++ news) → w.grownBy w' v.ownBlock → K (a.put o.dst (.slice A' (n + m) c')) w') :
    if Region.wanted o (yielded ops a.tmps) = true then Oper.wp P o a w K Q else E := by
  have hw : Region.wanted o (yielded ops a.tmps) = true := by simp [Region.wanted, hg]
  rw [if_pos hw]
  obtain ⟨v', w', hr, h2, h3⟩ := run_append_lies (ty := o.type) (c := c) ht hi hzs hk hby hown hl h1 hlen hbase
  obtain ⟨A', c', rfl, -, -⟩ := own_form h2
  unfold Oper.wp
  simp [execOp, hop, resolve, invoke, builtin, hs, hx, hr, Result.andThen]
  exact h A' c' w' h2 h3
/-- What a block holds, read as one element. -/
theorem lies_block {w : World} {g : Nat} {t : TypeId} {cs : Array Value} (h : Block w g t cs) {k : Nat} (hk : cs.size = k) : Lies w w.heap.size k (some ⟨g, 0, none⟩) 1 cs.toList :=
  ⟨by simp [hk], fun _ => ⟨g, 0, rfl, h.lt, fun j u hu => by rw [Nat.zero_add, h.cell j]; simpa using hu⟩⟩
/-- .. as some elements of one cell each. -/
theorem lies_blockN {w : World} {g : Nat} {t : TypeId} {cs : Array Value} (h : Block w g t cs) {n : Nat} (hk : cs.size = n) : Lies w w.heap.size 1 (some ⟨g, 0, none⟩) n cs.toList :=
  ⟨by simp [hk], fun _ => ⟨g, 0, rfl, h.lt, fun j u hu => by rw [Nat.zero_add, h.cell j]; simpa using hu⟩⟩
end Go.Proofs.YtpncnkihfijmaaaGreatDoor
namespace Go.Proofs.YtpncnkihfijmaaaGreatDoor
open Go.ChangeShapes Go.WideShapes Go.ChangeAt Go.RowKit Go.ChangeMaps
set_option maxRecDepth 10000
set_option linter.unusedSimpArgs false
set_option linter.unusedVariables false

/-- The variable holds an interface value that is not nil. -/
def IfaceVar (W : World) (n : String) : Prop := ∃ u v, W.var? Tryz.prog n = some #[.iface u v]
theorem IfaceVar.below {W W' : World} {n : String} {B : Nat} (h : IfaceVar W n) (hb : Below B W W') (hB : W.heap.size ≤ B) : IfaceVar W' n := by
  obtain ⟨u, v, hv⟩ := h
  refine ⟨u, v, ?_⟩
  cases hg : Tryz.prog.globalNamed n with
  | none => simp [World.var?, hg] at hv
  | some g => exact Joins.var_stays hg hv hb hB
theorem laid_ifaceVar {L : List (String × DataW Unit)} {W : World} {n nm : String} {d : DataW Unit} {ms : Array (String × TypeId)} (k : Nat) (h : laidMet Tryz.prog L W) (hm : L[k]? = some (n, .iface nm d)) {g : Nat} {ti : TypeId}
    (hg : Tryz.prog.globalNamed n = some g) (ht : (Tryz.prog.globals[g]?).map (·.type) = some ti) (hi : Tryz.prog.underlying ti = some (.interface ms)) : IfaceVar W n := by
  induction L generalizing k with
  | nil => cases hm
  | cons x r ih =>
    cases k with
    | succ k => exact ih k h.tail hm
    | zero =>
      cases hm
      obtain ⟨ps, ⟨g0, t0, cs0, f0, p0, q0, hg0, ht0, hv0, hd0, _, e0⟩, _, hrows⟩ := h
      obtain rfl := Option.some.inj (hg.symm.trans hg0)
      obtain rfl := Option.some.inj (ht.symm.trans ht0)
      obtain ⟨f1, u, v, hcs, _⟩ := iface_of_trod hi hd0
      exact ⟨u, v, by rw [hv0, Array.eq_one_of_toList hcs]⟩

/-- The two sentinels that strconv's errors bear. -/
def ErrVars (W : World) : Prop := IfaceVar W "strconv.ErrSyntax" ∧ IfaceVar W "strconv.ErrRange"
theorem ErrVars.below {W W' : World} {B : Nat} (h : ErrVars W) (hb : Below B W W') (hB : W.heap.size ≤ B) : ErrVars W' := ⟨h.1.below hb hB, h.2.below hb hB⟩

theorem parseInt_ok (s : ByteArray) (hs : s.size ≤ 1048576) (v : Int) (h : Lib.parseIntB 64 s.data.toList = .ok v) (w : World) :
    Calls Tryz.prog 120 #[.string s, .int .i64 10, .int .i64 64] w fun e w' => e = .returned (.tuple #[.int .i64 v, .nilIface]) ∧ Below w.heap.size w w' := by
  refine (Tryz.strconv_ParseInt_10_at64_ok s (by omega) v h w).mono ?_
  rintro e w' ⟨rfl, rfl | ⟨t, rfl⟩⟩
  · exact ⟨rfl, Below.refl _ _⟩
  · exact ⟨rfl, Joins.below_bytesWorld _ _ _ _ (Nat.le_refl _)⟩

theorem parseInt_no (s : ByteArray) (hs : s.size ≤ 1048576) (h : ∀ v, Lib.parseIntB 64 s.data.toList ≠ .ok v) (w : World) (hE : ErrVars w) :
    Calls Tryz.prog 120 #[.string s, .int .i64 10, .int .i64 64] w fun e w' => (∃ n N, e = .returned (.tuple #[.int .i64 n, .iface 211 (.pointer (some ⟨N, 0, none⟩))])) ∧ Below w.heap.size w w' := by
  obtain ⟨⟨u1, v1, h1⟩, u2, v2, h2⟩ := hE
  rcases hp : Lib.parseIntB 64 s.data.toList with v | _ | _
  · exact absurd hp (h v)
  · refine (Any.strconv_ParseInt_10_at64_syntax_var Tryz.laysC174 s (by omega) hp u1 v1 w h1).mono ?_
    rintro e w' ⟨N, he, _, _, hb⟩
    exact ⟨⟨_, N, he⟩, hb⟩
  · refine (Any.strconv_ParseInt_10_at64_range_var Tryz.laysC174 s (by omega) hp u2 v2 w h2).mono ?_
    rintro e w' ⟨N, he, _, _, hb⟩
    exact ⟨⟨_, N, he⟩, hb⟩
end Go.Proofs.YtpncnkihfijmaaaGreatDoor
namespace Go.Proofs.YtpncnkihfijmaaaGreatDoor
open Go.RowKit

set_option maxHeartbeats 400000 in
theorem tooLong_any (s : ByteArray) (w : World) : Calls Tryz.prog 43 #[.string s] w fun e w' => e = .returned (.bool (decide (8000 < (s.size : Int)))) ∧ w = w' := by
  go_enter Tryz.func43, Tryz.ntmps43
  go_wp2
  go_ret
  exact ⟨rfl, rfl⟩

end Go.Proofs.YtpncnkihfijmaaaGreatDoor
namespace Go.Proofs.YtpncnkihfijmaaaGreatDoor

def isDig (c : UInt8) : Bool := decide (48 ≤ c.toNat ∧ c.toNat ≤ 57)
def stepV (n : Int) (c : UInt8) : Int := 10 * n + ((c.toNat : Int) - 48)
def numV (l : List UInt8) : Int := l.foldl stepV 0
/-- A number of at most nine digits without a needless nought; -1: it is none. -/
def numI (l : List UInt8) : Int := if l.length < 1 ∨ 9 < l.length ∨ (1 < l.length ∧ l.head? = some 48) then -1 else if l.all isDig = true then numV l else -1

theorem numV_snoc (l : List UInt8) (c : UInt8) : numV (l ++ [c]) = 10 * numV l + ((c.toNat : Int) - 48) := by simp [numV, stepV]
theorem numV_bound' : ∀ (r : List UInt8), r.reverse.all isDig = true → 0 ≤ numV r.reverse ∧ numV r.reverse < 10 ^ r.length
  | [], _ => by simp [numV]
  | c :: r, h => by
    rw [List.reverse_cons, List.all_append] at h
    simp only [List.all_cons, List.all_nil, Bool.and_true, Bool.and_eq_true] at h
    have h1 := numV_bound' r h.1
    have h2 : 48 ≤ c.toNat ∧ c.toNat ≤ 57 := by simpa [isDig] using h.2
    rw [List.reverse_cons, numV_snoc, List.length_cons, Int.pow_succ]
    omega
theorem numV_bound (l : List UInt8) (h : l.all isDig = true) : 0 ≤ numV l ∧ numV l < 10 ^ l.length := by
  have := numV_bound' l.reverse (by rw [List.reverse_reverse]; exact h)
  rw [List.reverse_reverse, List.length_reverse] at this
  exact this
theorem pow10_le {n m : Nat} (h : n ≤ m) : (10 : Int) ^ n ≤ 10 ^ m := by
  have := Nat.pow_le_pow_right (show 0 < 10 by omega) h
  have h2 : ((10 ^ n : Nat) : Int) ≤ ((10 ^ m : Nat) : Int) := by omega
  simpa using h2
theorem numV_nine {l : List UInt8} (h : l.all isDig = true) (hl : l.length ≤ 9) : 0 ≤ numV l ∧ numV l < 1000000000 := by
  have h1 := numV_bound l h
  have h2 := pow10_le hl
  have e : (10 : Int) ^ 9 = 1000000000 := by decide
  omega
theorem numI_bound (l : List UInt8) : -1 ≤ numI l ∧ numI l < 1000000000 := by
  unfold numI
  split
  · omega
  · split
    · rename_i h1 h2
      have := numV_nine h2 (by omega)
      omega
    · omega

theorem digit_isDig {n : Nat} (h : n < 10) : isDig (UInt8.ofNat (48 + n)) = true := by
  have e : (UInt8.ofNat (48 + n)).toNat = 48 + n := by rw [UInt8.toNat_ofNat']; exact Nat.mod_eq_of_lt (by omega)
  unfold isDig
  rw [e]
  simp; omega
theorem digit_val {n : Nat} (h : n < 10) : (((UInt8.ofNat (48 + n)).toNat : Int)) - 48 = n := by
  have e : (UInt8.ofNat (48 + n)).toNat = 48 + n := by rw [UInt8.toNat_ofNat']; exact Nat.mod_eq_of_lt (by omega)
  rw [e]; omega
theorem dec_props (u : Nat) : (Lib.decDigits u).all isDig = true ∧ numV (Lib.decDigits u) = u ∧ 1 ≤ (Lib.decDigits u).length ∧ (0 < u → (Lib.decDigits u).head? ≠ some 48) := by
  induction u using Nat.strongRecOn with
  | _ u ih =>
    by_cases h : u < 10
    · have d1 := digit_isDig h
      have d2 := digit_val h
      rw [Lib.decDigits, dif_pos h]
      generalize UInt8.ofNat (48 + u) = b at *
      refine ⟨by simp [d1], by simp only [numV, stepV, List.foldl_cons, List.foldl_nil]; omega, by simp, fun hu => ?_⟩
      simp only [List.head?_cons, ne_eq, Option.some.injEq]
      rintro rfl
      have e3 : ((48 : UInt8).toNat : Int) = 48 := rfl
      omega
    · obtain ⟨h1, h2, h3, h4⟩ := ih (u / 10) (by omega)
      have d1 := digit_isDig (show u % 10 < 10 by omega)
      have d2 := digit_val (show u % 10 < 10 by omega)
      rw [Lib.decDigits, dif_neg h]
      generalize UInt8.ofNat (48 + u % 10) = b at *
      refine ⟨by simp [h1, d1], ?_, by simp, fun hu => ?_⟩
      · rw [numV_snoc, h2]; omega
      · cases hd : Lib.decDigits (u / 10) with
        | nil => rw [hd] at h3; simp at h3
        | cons a r =>
          rw [hd] at h4
          simpa using h4 (by omega)
theorem nDig_ge (u : Nat) (h : ¬ u < 10) : 10 ^ (Lib.nDigits u - 1) ≤ u := by
  induction u using Nat.strongRecOn with
  | _ u ih =>
    rw [Lib.nDigits_big h]
    by_cases h2 : u / 10 < 10
    · rw [Lib.nDigits_small h2]; simp; omega
    · have := ih (u / 10) (by omega) h2
      have hp := Lib.nDigits_pos (u / 10)
      obtain ⟨k, hk⟩ : ∃ k, Lib.nDigits (u / 10) = k + 1 := ⟨Lib.nDigits (u / 10) - 1, by omega⟩
      rw [hk] at this ⊢
      simp only [Nat.add_sub_cancel] at this ⊢
      rw [Nat.pow_succ]
      omega
/-- A number of at most nine digits comes back from its digits. -/
theorem numI_dec {u : Nat} (h : u < 1000000000) : numI (Lib.decDigits u) = u := by
  obtain ⟨h1, h2, h3, h4⟩ := dec_props u
  have hlen : (Lib.decDigits u).length ≤ 9 := by
    rw [Lib.decDigits_length]
    by_cases hu : u < 10
    · rw [Lib.nDigits_small hu]; omega
    · refine Nat.le_of_not_lt fun hlt => ?_
      have hp := Lib.lt_pow_nDigits u
      obtain ⟨k, hk⟩ : ∃ k, Lib.nDigits u = k + 10 := ⟨Lib.nDigits u - 10, by omega⟩
      have := nDig_ge u hu
      rw [hk] at this
      have h9 : 10 ^ 9 ≤ 10 ^ (k + 9) := Nat.pow_le_pow_right (by omega) (by omega)
      have e9 : 10 ^ 9 = 1000000000 := by decide
      have e10 : k + 10 - 1 = k + 9 := by omega
      rw [e10] at this
      omega
  unfold numI
  rw [if_neg ?_, if_pos h1, h2]
  rintro (h5 | h5 | ⟨h5, h6⟩)
  · omega
  · omega
  · by_cases hu : 0 < u
    · exact h4 hu h6
    · obtain rfl : u = 0 := by omega
      rw [Lib.decDigits, dif_pos (by omega)] at h5
      simp at h5
end Go.Proofs.YtpncnkihfijmaaaGreatDoor
namespace Go.Proofs.YtpncnkihfijmaaaGreatDoor
open Go.ChangeShapes Go.WideShapes Go.ChangeAt Go.RowKit Go.ChangeMaps
set_option maxRecDepth 10000
set_option linter.unusedSimpArgs false
set_option linter.unusedVariables false

theorem numI_size {s : ByteArray} (h : s.size < 1 ∨ 9 < s.size) : numI s.data.toList = -1 := by
  have e : s.data.toList.length = s.size := by simp
  unfold numI
  rw [if_pos (by omega)]
theorem head_at {s : ByteArray} (h : 0 < s.size) : s.data.toList.head? = some s[0] := by
  rw [List.head?_eq_getElem?, List.getElem?_eq_getElem (by simpa using h)]
  rfl
theorem numI_nought {s : ByteArray} (h : 1 < s.size) (h0 : s[0] = 48) : numI s.data.toList = -1 := by
  have e : s.data.toList.length = s.size := by simp
  unfold numI
  rw [if_pos (by rw [e, head_at (by omega), h0]; simp [h])]
theorem numI_bad {s : ByteArray} (k : Nat) (hk : k < s.size) (h : isDig s[k] = false) : numI s.data.toList = -1 := by
  unfold numI
  split
  · rfl
  · rw [if_neg]
    intro ha
    have := List.all_eq_true.1 ha s[k] (by have : s[k] = s.data.toList[k]'(by simpa using hk) := rfl; rw [this]; exact List.getElem_mem _)
    rw [h] at this
    cases this
theorem numI_good {s : ByteArray} (h1 : 1 ≤ s.size) (h2 : s.size ≤ 9) (h3 : s.size = 1 ∨ s[0]'(by omega) ≠ 48) (ha : s.data.toList.all isDig = true) : numI s.data.toList = numV s.data.toList := by
  have e : s.data.toList.length = s.size := by simp
  unfold numI
  rw [if_neg, if_pos ha]
  rintro (h | h | ⟨h, h'⟩)
  · omega
  · omega
  · rw [head_at (by omega)] at h'
    rcases h3 with h3 | h3
    · omega
    · exact h3 (Option.some.inj h')

set_option maxHeartbeats 1000000 in
theorem l02Num_any (s : ByteArray) (w : World) (hs : s.size ≤ maxLen) : Calls Tryz.prog 41 #[.string s] w fun e w' => e = .returned (.int .i64 (numI s.data.toList)) ∧ w = w' := by
  unfold maxLen at hs
  by_cases h1 : s.size < 1
  · go_enter Tryz.func41, Tryz.ntmps41
    go_wp2
    go_ret
    exact ⟨ret_int (numI_size (.inl h1)).symm, rfl⟩
  by_cases h9 : 9 < s.size
  · go_enter Tryz.func41, Tryz.ntmps41
    go_wp2
    go_ret
    exact ⟨ret_int (numI_size (.inr h9)).symm, rfl⟩
  have key : (1 < s.size ∧ ∃ h : 0 < s.size, s[0] = 48) ∨ ((¬ 1 < s.size ∨ (1 < s.size ∧ ∃ h : 0 < s.size, ((s[0].toNat : Int) == 48) = false)) ∧ (s.data.toList.all isDig = true → numI s.data.toList = numV s.data.toList)) := by
    by_cases hm : 1 < s.size
    · by_cases h0 : s[0] = 48
      · exact .inl ⟨hm, by omega, h0⟩
      · refine .inr ⟨.inr ⟨hm, by omega, ?_⟩, fun ha => numI_good (s := s) (by omega) (by omega) (.inr h0) ha⟩
        rw [beq_eq_false_iff_ne]
        intro e
        exact h0 (UInt8.toNat_inj.1 (by have : (48 : UInt8).toNat = 48 := rfl; omega))
    · exact .inr ⟨.inl hm, fun ha => numI_good (s := s) (by omega) (by omega) (.inl (by omega)) ha⟩
  rcases key with ⟨hm, hp, h0⟩ | ⟨hm, hG⟩
  · have hb0 : ((s[0].toNat : Int) == 48) = true := by rw [h0]; rfl
    have HR := Lib.hid (numI_nought hm h0)
    clear h0
    go_enter Tryz.func41, Tryz.ntmps41
    go_wp2
    go_ret
    exact ⟨ret_int HR.out.symm, rfl⟩
  have HG := Lib.hid hG
  clear hG
  have hp : 0 < s.size := by omega
  rcases hm with hm | ⟨hm, hp', hb0⟩
  all_goals
    go_enter Tryz.func41, Tryz.ntmps41
    go_wp2
    go_loop [3, 4] (fun n i => ∃ k : Nat, k ≤ s.size ∧ i = .int .i64 (k : Int) ∧ n = .int .i64 (numV (s.data.toList.take k)) ∧ Hid ((s.data.toList.take k).all isDig = true)) (fun _ i => s.size - (intOf i).toNat)
    case atStart => exact ⟨0, Nat.zero_le _, rfl, rfl, rfl⟩
    case round =>
      try clear hb0
      obtain ⟨k, hk, rfl, rfl, hall⟩ := hrel
      by_cases hlt : k < s.size
      · have hv := numV_nine hall.out (by have := List.length_take_le k s.data.toList; omega)
        have hts := take_snoc s k hlt
        have HS : Hid (numV (s.data.toList.take (k + 1)) = 10 * numV (s.data.toList.take k) + ((s[k].toNat : Int) - 48)) := by rw [Hid, hts, numV_snoc]
        have HA : Hid (isDig s[k] = true → (s.data.toList.take (k + 1)).all isDig = true) := fun hd => by rw [hts, List.all_append, hall.out]; simpa using hd
        have HN : Hid (isDig s[k] = false → numI s.data.toList = -1) := fun hd => numI_bad k hlt hd
        clear hts
        generalize numV (s.data.toList.take k) = V at *
        obtain ⟨v1, v2⟩ := hv
        go_wp2
        all_goals first
          | (go_ret
             refine ⟨ret_int (HN.out ?_).symm, rfl⟩
             simp [isDig]
             omega)
          | (go_round
             case rel => exact ⟨k + 1, by omega, by go_num, by rw [HS.out], HA.out (by simp [isDig]; omega)⟩
             case measure => simp [intOf]; omega)
      · obtain rfl : k = s.size := by omega
        have he : s.data.toList.take s.size = s.data.toList := List.take_of_length_le (by simp)
        have hR := HG.out (by rw [← he]; exact hall.out)
        have HR := Lib.hid hR
        have HE := Lib.hid he
        clear hR he
        go_wp2
        go_ret
        exact ⟨ret_int (by rw [HE.out, HR.out]), rfl⟩
end Go.Proofs.YtpncnkihfijmaaaGreatDoor
