/-
  impl.ReqRight: at every request. (By gen_reqri.py.)
-/
import Derived.Test.YtpncnkihfijmaaaDoorReqRightI
namespace Go.Proofs.YtpncnkihfijmaaaDoor
open Go.ChangeShapes Go.WideShapes Go.ChangeAt Go.RowKit Go.ChangeMaps
set_option maxRecDepth 10000
set_option linter.unusedSimpArgs false
set_option linter.unusedVariables false

theorem kind_ways {k : Int} (h : inB k 1 10 = true) : k = 1 ∨ k = 2 ∨ k = 3 ∨ k = 4 ∨ k = 5 ∨ k = 6 ∨ k = 7 ∨ k = 8 ∨ k = 9 ∨ k = 10 := by
  simp only [inB, Bool.and_eq_true, decide_eq_true_eq] at h
  omega

theorem iReqRight_any (k t h l : Int) (n f : ByteArray) (r c o : Int) (w : World) (hn : n.size ≤ maxLen) (hf : f.size ≤ maxLen) :
    Calls Tryd.prog 14 #[reqV k t h l n f r c o] w fun e w' => e = .returned (.bool (reqB ⟨k, t, h, l, n, f, r, c, o⟩)) ∧ Below w.heap.size w w' := by
  cases hk : inB k 1 10
  · have e : reqB ⟨k, t, h, l, n, f, r, c, o⟩ = false := by simp [reqB, hk]
    rw [e]
    exact iReqRight_no k t h l n f r c o w hk
  cases ht : inB t 1 999
  · have e : reqB ⟨k, t, h, l, n, f, r, c, o⟩ = false := by simp [reqB, ht]
    rw [e]
    rcases kind_ways hk with rfl | rfl | rfl | rfl | rfl | rfl | rfl | rfl | rfl | rfl
    · exact iReqRight_t1 t h l n f r c o w ht
    · exact iReqRight_t2 t h l n f r c o w ht
    · exact iReqRight_t3 t h l n f r c o w ht
    · exact iReqRight_t4 t h l n f r c o w ht
    · exact iReqRight_t5 t h l n f r c o w ht
    · exact iReqRight_t6 t h l n f r c o w ht
    · exact iReqRight_t7 t h l n f r c o w ht
    · exact iReqRight_t8 t h l n f r c o w ht
    · exact iReqRight_t9 t h l n f r c o w ht
    · exact iReqRight_t10 t h l n f r c o w ht
  have e : reqB ⟨k, t, h, l, n, f, r, c, o⟩ = (placeB (hasPb k) h l && ((wordOr (hasNb k) n && wordOr (hasFb k) f) && (seatOr (hasSb k) r c && toOr (hasTb k) o))) := by simp [reqB, hk, ht]
  rw [e]
  rcases kind_ways hk with rfl | rfl | rfl | rfl | rfl | rfl | rfl | rfl | rfl | rfl
  · refine (iReqRight_1 t h l n f r c o w hn hf ht).mono fun e w' ⟨he, hb⟩ => ⟨he.trans (ret_bool ?_), hb⟩
    clear he hb
    have oi : ∀ x : Int, (0 = x) = (x = 0) := fun x => propext eq_comm
    have ob : ∀ s : ByteArray, ((⟨#[]⟩ : ByteArray) = s) = (s = ⟨#[]⟩) := fun s => propext eq_comm
    rw [Bool.eq_iff_iff]
    simp [placeB, wordOr, seatOr, toOr, hasPb, hasNb, hasFb, hasSb, hasTb, oi, ob, and_assoc]
    try (intros; constructor <;> intro hh <;> simp_all)
  · refine (iReqRight_2 t h l n f r c o w hn hf ht).mono fun e w' ⟨he, hb⟩ => ⟨he.trans (ret_bool ?_), hb⟩
    clear he hb
    have oi : ∀ x : Int, (0 = x) = (x = 0) := fun x => propext eq_comm
    have ob : ∀ s : ByteArray, ((⟨#[]⟩ : ByteArray) = s) = (s = ⟨#[]⟩) := fun s => propext eq_comm
    rw [Bool.eq_iff_iff]
    simp [placeB, wordOr, seatOr, toOr, hasPb, hasNb, hasFb, hasSb, hasTb, oi, ob, and_assoc]
    try (intros; constructor <;> intro hh <;> simp_all)
  · refine (iReqRight_3 t h l n f r c o w hn hf ht).mono fun e w' ⟨he, hb⟩ => ⟨he.trans (ret_bool ?_), hb⟩
    clear he hb
    have oi : ∀ x : Int, (0 = x) = (x = 0) := fun x => propext eq_comm
    have ob : ∀ s : ByteArray, ((⟨#[]⟩ : ByteArray) = s) = (s = ⟨#[]⟩) := fun s => propext eq_comm
    rw [Bool.eq_iff_iff]
    simp [placeB, wordOr, seatOr, toOr, hasPb, hasNb, hasFb, hasSb, hasTb, oi, ob, and_assoc]
    try (intros; constructor <;> intro hh <;> simp_all)
  · refine (iReqRight_4 t h l n f r c o w hn hf ht).mono fun e w' ⟨he, hb⟩ => ⟨he.trans (ret_bool ?_), hb⟩
    clear he hb
    have oi : ∀ x : Int, (0 = x) = (x = 0) := fun x => propext eq_comm
    have ob : ∀ s : ByteArray, ((⟨#[]⟩ : ByteArray) = s) = (s = ⟨#[]⟩) := fun s => propext eq_comm
    rw [Bool.eq_iff_iff]
    simp [placeB, wordOr, seatOr, toOr, hasPb, hasNb, hasFb, hasSb, hasTb, oi, ob, and_assoc]
    try (intros; constructor <;> intro hh <;> simp_all)
  · refine (iReqRight_5 t h l n f r c o w hn hf ht).mono fun e w' ⟨he, hb⟩ => ⟨he.trans (ret_bool ?_), hb⟩
    clear he hb
    have oi : ∀ x : Int, (0 = x) = (x = 0) := fun x => propext eq_comm
    have ob : ∀ s : ByteArray, ((⟨#[]⟩ : ByteArray) = s) = (s = ⟨#[]⟩) := fun s => propext eq_comm
    rw [Bool.eq_iff_iff]
    simp [placeB, wordOr, seatOr, toOr, hasPb, hasNb, hasFb, hasSb, hasTb, oi, ob, and_assoc]
    try (intros; constructor <;> intro hh <;> simp_all)
  · refine (iReqRight_6 t h l n f r c o w hn hf ht).mono fun e w' ⟨he, hb⟩ => ⟨he.trans (ret_bool ?_), hb⟩
    clear he hb
    have oi : ∀ x : Int, (0 = x) = (x = 0) := fun x => propext eq_comm
    have ob : ∀ s : ByteArray, ((⟨#[]⟩ : ByteArray) = s) = (s = ⟨#[]⟩) := fun s => propext eq_comm
    rw [Bool.eq_iff_iff]
    simp [placeB, wordOr, seatOr, toOr, hasPb, hasNb, hasFb, hasSb, hasTb, oi, ob, and_assoc]
    try (intros; constructor <;> intro hh <;> simp_all)
  · refine (iReqRight_7 t h l n f r c o w hn hf ht).mono fun e w' ⟨he, hb⟩ => ⟨he.trans (ret_bool ?_), hb⟩
    clear he hb
    have oi : ∀ x : Int, (0 = x) = (x = 0) := fun x => propext eq_comm
    have ob : ∀ s : ByteArray, ((⟨#[]⟩ : ByteArray) = s) = (s = ⟨#[]⟩) := fun s => propext eq_comm
    rw [Bool.eq_iff_iff]
    simp [placeB, wordOr, seatOr, toOr, hasPb, hasNb, hasFb, hasSb, hasTb, oi, ob, and_assoc]
    try (intros; constructor <;> intro hh <;> simp_all)
  · refine (iReqRight_8 t h l n f r c o w hn hf ht).mono fun e w' ⟨he, hb⟩ => ⟨he.trans (ret_bool ?_), hb⟩
    clear he hb
    have oi : ∀ x : Int, (0 = x) = (x = 0) := fun x => propext eq_comm
    have ob : ∀ s : ByteArray, ((⟨#[]⟩ : ByteArray) = s) = (s = ⟨#[]⟩) := fun s => propext eq_comm
    rw [Bool.eq_iff_iff]
    simp [placeB, wordOr, seatOr, toOr, hasPb, hasNb, hasFb, hasSb, hasTb, oi, ob, and_assoc]
    try (intros; constructor <;> intro hh <;> simp_all)
  · refine (iReqRight_9 t h l n f r c o w hn hf ht).mono fun e w' ⟨he, hb⟩ => ⟨he.trans (ret_bool ?_), hb⟩
    clear he hb
    have oi : ∀ x : Int, (0 = x) = (x = 0) := fun x => propext eq_comm
    have ob : ∀ s : ByteArray, ((⟨#[]⟩ : ByteArray) = s) = (s = ⟨#[]⟩) := fun s => propext eq_comm
    rw [Bool.eq_iff_iff]
    simp [placeB, wordOr, seatOr, toOr, hasPb, hasNb, hasFb, hasSb, hasTb, oi, ob, and_assoc]
    try (intros; constructor <;> intro hh <;> simp_all)
  · refine (iReqRight_10 t h l n f r c o w hn hf ht).mono fun e w' ⟨he, hb⟩ => ⟨he.trans (ret_bool ?_), hb⟩
    clear he hb
    have oi : ∀ x : Int, (0 = x) = (x = 0) := fun x => propext eq_comm
    have ob : ∀ s : ByteArray, ((⟨#[]⟩ : ByteArray) = s) = (s = ⟨#[]⟩) := fun s => propext eq_comm
    rw [Bool.eq_iff_iff]
    simp [placeB, wordOr, seatOr, toOr, hasPb, hasNb, hasFb, hasSb, hasTb, oi, ob, and_assoc]
    try (intros; constructor <;> intro hh <;> simp_all)
end Go.Proofs.YtpncnkihfijmaaaDoor