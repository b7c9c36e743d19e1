/-
  The text of a request, as both sides write it.
-/
import Derived.Test.YtpncnkihfijmaaaDoorReqS
import Derived.Test.YtpncnkihfijmaaaDoorTextN
import Derived.Lib.Join
namespace Go.Proofs.YtpncnkihfijmaaaDoor
open Go.ChangeShapes Go.WideShapes Go.ChangeAt Go.RowKit Go.ChangeMaps
set_option maxRecDepth 10000
set_option linter.unusedSimpArgs false
set_option linter.unusedVariables false

/-- The words of the kinds. -/
def kindsT : List ByteArray := [⟨#[]⟩, ⟨#[109, 97, 107, 101]⟩, ⟨#[110, 97, 109, 101]⟩, ⟨#[104, 111, 108, 100]⟩, ⟨#[102, 114, 101, 101]⟩, ⟨#[99, 97, 110, 99, 101, 108]⟩, ⟨#[111, 102, 102, 101, 114]⟩, ⟨#[116, 97, 107, 101]⟩, ⟨#[114, 101, 97, 100]⟩, ⟨#[109, 97, 112]⟩, ⟨#[97, 117, 100, 105, 116]⟩]
def kindT (k : Int) : ByteArray := kindsT.getD k.toNat ⟨#[]⟩
theorem kind_ways' {k : Int} (h : inB k 1 10 = true) : k = 1 ∨ k = 2 ∨ k = 3 ∨ k = 4 ∨ k = 5 ∨ k = 6 ∨ k = 7 ∨ k = 8 ∨ k = 9 ∨ k = 10 := by
  simp only [inB, Bool.and_eq_true, decide_eq_true_eq] at h
  omega
theorem kindT_size {k : Int} (h : inB k 1 10 = true) : (kindT k).size ≤ 6 := by
  rcases kind_ways' h with rfl | rfl | rfl | rfl | rfl | rfl | rfl | rfl | rfl | rfl <;> decide

/-- The words of a request behind its token. -/
def askW (x : RQ) : List ByteArray :=
  (if hasPb x.k then [placeT x.h x.l] else []) ++ ((if hasNb x.k then [x.n] else []) ++ ((if hasFb x.k then [x.f] else []) ++ ((if hasSb x.k then [seatT x.r x.c] else []) ++ (if hasTb x.k then [dgT x.o] else []))))
/-- A word behind a text. -/
def spT (t s : ByteArray) : ByteArray := (t ++ spA) ++ s
def headR (x : RQ) : ByteArray := spT (kindT x.k) (dgT x.t)
/-- What ReqText answers. -/
def reqT (x : RQ) : ByteArray := if reqB x = true then (askW x).foldl spT (headR x) else ⟨#[]⟩

/-- What stands for a letter. -/
def pieceT (x : RQ) (c : UInt8) : ByteArray := if c.toNat = 98 then placeT x.h x.l else if c.toNat = 110 then x.n else if c.toNat = 102 then x.f else if c.toNat = 115 then seatT x.r x.c else dgT x.o
theorem takes_pieces (x : RQ) : (takesT x.k).data.toList.map (pieceT x) = askW x := by
  unfold takesT askW hasPb hasNb hasFb hasSb hasTb
  split
  · rename_i h; rw [h]; rfl
  split
  · rename_i h; rcases h with h | h <;> rw [h] <;> rfl
  split
  · rename_i h; rcases h with h | h | h <;> rw [h] <;> rfl
  split
  · rename_i h; rw [h]; rfl
  split
  · rename_i h; rw [h]; rfl
  · rw [decide_eq_false (by omega), decide_eq_false (by omega), decide_eq_false (by omega), decide_eq_false (by omega), decide_eq_false (by omega)]; rfl
/-- Which letters a kind takes, and what is so of what they stand for. -/
theorem dgT_size3 {n : Int} (h1 : n < 1000) : (dgT n).size ≤ 3 := by
  rw [dgT, bsize]
  by_cases h : n.toNat < 10
  · rw [Lib.decDigits_one h]; simp
  · by_cases h2 : n.toNat < 100
    · rw [Lib.decDigits_two (by omega) h2]; simp
    · rw [Lib.decDigits, dif_neg (by omega), Lib.decDigits_two (by omega) (by omega)]; simp

structure ReqOk (x : RQ) : Prop where
  kind : inB x.k 1 10 = true
  tok : 1 ≤ x.t ∧ x.t ≤ 999
  place : hasPb x.k = true → (1 ≤ x.h ∧ x.h ≤ 4) ∧ (1 ≤ x.l ∧ x.l ≤ 9)
  name : hasNb x.k = true → wordB x.n = true
  flight : hasFb x.k = true → wordB x.f = true
  seat : hasSb x.k = true → seatB x.r x.c = true
  other : hasTb x.k = true → 1 ≤ x.o ∧ x.o ≤ 4
theorem req_ok {x : RQ} (h : reqB x = true) : ReqOk x := by
  simp only [reqB, Bool.and_eq_true] at h
  obtain ⟨h1, h2, h3, ⟨h4, h5⟩, h6, h7⟩ := h
  refine ⟨h1, ?_, fun e => ?_, fun e => ?_, fun e => ?_, fun e => ?_, fun e => ?_⟩
  · simpa [inB] using h2
  · rw [placeB, e] at h3; simpa [inB] using h3
  · rw [wordOr, e] at h4; simpa using h4
  · rw [wordOr, e] at h5; simpa using h5
  · rw [seatOr, e] at h6; simpa using h6
  · rw [toOr, e] at h7; simpa [inB] using h7
/-- The letter at a place of what a kind takes. -/
theorem letter_ways {k : Int} {c : UInt8} (h : c ∈ (takesT k).data.toList) : (c.toNat = 98 ∧ hasPb k = true) ∨ (c.toNat = 110 ∧ hasNb k = true) ∨ (c.toNat = 102 ∧ hasFb k = true) ∨ (c.toNat = 115 ∧ hasSb k = true) ∨ (c.toNat = 116 ∧ hasTb k = true) := by
  have key : ∀ n : Nat, c.toNat = n → hasC (takesT k) n = true := fun n hn => by
    rw [hasC, List.any_eq_true]
    exact ⟨c, h, decide_eq_true (by omega)⟩
  have hc : c.toNat = 98 ∨ c.toNat = 110 ∨ c.toNat = 102 ∨ c.toNat = 115 ∨ c.toNat = 116 := by
    unfold takesT at h
    split at h
    · rcases (by simpa using h : c = 98 ∨ c = 110) with rfl | rfl <;> decide
    split at h
    · rcases (by simpa using h : c = 98 ∨ c = 102 ∨ c = 115) with rfl | rfl | rfl <;> decide
    split at h
    · rcases (by simpa using h : c = 98) with rfl; decide
    split at h
    · rcases (by simpa using h : c = 98 ∨ c = 116) with rfl | rfl <;> decide
    split at h
    · rcases (by simpa using h : c = 102) with rfl; decide
    · simp at h
  rcases hc with e | e | e | e | e
  · exact .inl ⟨e, (takes_b k).symm.trans (key 98 e)⟩
  · exact .inr (.inl ⟨e, (takes_n k).symm.trans (key 110 e)⟩)
  · exact .inr (.inr (.inl ⟨e, (takes_f k).symm.trans (key 102 e)⟩))
  · exact .inr (.inr (.inr (.inl ⟨e, (takes_s k).symm.trans (key 115 e)⟩)))
  · exact .inr (.inr (.inr (.inr ⟨e, (takes_t k).symm.trans (key 116 e)⟩)))
theorem piece_size {x : RQ} (ho : ReqOk x) {c : UInt8} (h : c ∈ (takesT x.k).data.toList) : (pieceT x c).size ≤ 8 := by
  unfold pieceT
  rcases letter_ways h with ⟨e, hb⟩ | ⟨e, hb⟩ | ⟨e, hb⟩ | ⟨e, hb⟩ | ⟨e, hb⟩ <;> rw [e]
  · have := ho.place hb
    simp only [if_true]
    rw [placeT_size (by omega) (by omega) (by omega) (by omega)]; omega
  · simpa using wordB_le (ho.name hb)
  · simpa using wordB_le (ho.flight hb)
  · have := seatT_size (ho.seat hb)
    simp
    omega
  · have := ho.other hb
    simp
    rw [dgT_size (by omega) (by omega)]; omega
theorem spT_size (t s : ByteArray) : (spT t s).size = t.size + 1 + s.size := by
  simp [spT, ByteArray.size_append]; rfl
theorem headR_size {x : RQ} (ho : ReqOk x) : (headR x).size ≤ 10 := by
  rw [headR, spT_size]
  have := kindT_size ho.kind
  have := dgT_size3 (n := x.t) (by have := ho.tok; omega)
  omega
theorem spT_fold (l : List ByteArray) (t : ByteArray) (m : Nat) (h : ∀ s ∈ l, s.size ≤ m) : (l.foldl spT t).size ≤ t.size + (m + 1) * l.length := by
  induction l generalizing t with
  | nil => simp
  | cons s l ih =>
    have h1 := ih (spT t s) (fun x hx => h x (List.mem_cons_of_mem _ hx))
    have h2 := h s List.mem_cons_self
    have h3 := spT_size t s
    simp only [List.foldl_cons, List.length_cons, Nat.mul_add, Nat.mul_one]
    omega
theorem takes_len (k : Int) : (takesT k).data.toList.length ≤ 3 := by
  unfold takesT
  (repeat' split) <;> decide
/-- The text so far. -/
def soT (x : RQ) (i : Nat) : ByteArray := (((takesT x.k).data.toList.take i).map (pieceT x)).foldl spT (headR x)
theorem soT_size {x : RQ} (ho : ReqOk x) (i : Nat) : (soT x i).size ≤ 40 := by
  have h1 := headR_size ho
  have h2 := spT_fold (((takesT x.k).data.toList.take i).map (pieceT x)) (headR x) 8 (fun s hs => by
    obtain ⟨c, hc, rfl⟩ := List.mem_map.1 hs
    exact piece_size ho (List.mem_of_mem_take hc))
  have h3 := takes_len x.k
  have h4 : (((takesT x.k).data.toList.take i).map (pieceT x)).length ≤ 3 := by simp; simp at h3; omega
  rw [soT]
  omega
theorem soT_all {x : RQ} (h : reqB x = true) : soT x (takesT x.k).data.toList.length = reqT x := by
  rw [soT, List.take_length, takes_pieces, reqT, if_pos h]
theorem soT_succ {x : RQ} {i : Nat} {c : UInt8} (h : (takesT x.k).data.toList[i]? = some c) : soT x (i + 1) = spT (soT x i) (pieceT x c) := by
  rw [soT, List.take_add_one, h, Option.toList_some, List.map_append, List.foldl_append]
  rfl
theorem reqT_size (x : RQ) : (reqT x).size ≤ 40 := by
  by_cases h : reqB x = true
  · rw [← soT_all h]; exact soT_size (req_ok h) _
  · rw [reqT, if_neg h]; decide
/-- Joined with blanks between. -/
theorem joinTail_sp (a : ByteArray) (l : List ByteArray) : a.data.toList ++ Lib.joinTail spA.data.toList (l.map (·.data.toList)) = (l.foldl spT a).data.toList := by
  induction l generalizing a with
  | nil => simp [Lib.joinTail]
  | cons s l ih =>
    have := ih (spT a s)
    rw [List.foldl_cons, ← this, spT, ba_app, ba_app]
    simp [Lib.joinTail]
theorem join_sp (a : ByteArray) (l : List ByteArray) : (⟨(Lib.join ((a :: l).map (·.data.toList)) spA.data.toList).toArray⟩ : ByteArray) = l.foldl spT a := by
  apply ba_ext
  rw [List.map_cons, Lib.join_cons, joinTail_sp]
theorem join_req {x : RQ} (h : reqB x = true) : (⟨(Lib.join ((kindT x.k :: dgT x.t :: askW x).map (·.data.toList)) spA.data.toList).toArray⟩ : ByteArray) = reqT x := by
  rw [join_sp, reqT, if_pos h, List.foldl_cons]
  rfl
end Go.Proofs.YtpncnkihfijmaaaDoor
