/-
  FnPnr: the mathematics: a booking comes back from its text, a hold that is put in is there, once, and all rise.
-/
import Derived.Test.YtpncnkihfijmaaaGreatDoorDrawPfZ
namespace Go.Proofs.YtpncnkihfijmaaaGreatDoor
open Go.ChangeShapes Go.WideShapes Go.ChangeAt Go.RowKit Go.ChangeMaps
set_option maxRecDepth 10000
set_option linter.unusedSimpArgs false
set_option linter.unusedVariables false

theorem read_back {p : PD} (h : rightB p = true) : readP (textT p) = (p, 0) := by
  rw [readP, if_neg (by have := textT_le p; omega), parseS_text h, if_pos ⟨h, rfl⟩]
theorem read_text {s : ByteArray} (h : (readP s).2 = 0) : textT (readP s).1 = s := by
  unfold readP at h ⊢
  by_cases h1 : 8000 < s.size
  · rw [if_pos h1] at h
    exact absurd h (by decide)
  · rw [if_neg h1] at h ⊢
    by_cases h2 : rightB (parseS (cutB 32 s)) = true ∧ textT (parseS (cutB 32 s)) = s
    · rw [if_pos h2]
      exact h2.2
    · rw [if_neg h2] at h
      exact absurd h (by decide)
theorem text_none {p : PD} (h : rightB p = false) : textT p = ⟨#[]⟩ := by
  rw [textT, if_neg (by rw [h]; decide)]

theorem bl_irr : ∀ x : List UInt8, Op.bytesLess x x = false
  | [] => rfl
  | a :: x => by simp [Op.bytesLess, bl_irr x]
theorem bl_asym : ∀ x y : List UInt8, x ≠ y → Op.bytesLess y x = !Op.bytesLess x y
  | [], [], h => absurd rfl h
  | [], b :: y, _ => rfl
  | a :: x, [], _ => rfl
  | a :: x, b :: y, h => by
    by_cases hab : a = b
    · subst hab
      have := bl_asym x y (fun e => h (by rw [e]))
      simp [Op.bytesLess, this]
    · have h1 : (a == b) = false := by simpa using hab
      have h2 : (b == a) = false := by simpa using fun e => hab e.symm
      have h3 : a.toNat ≠ b.toNat := fun e => hab (UInt8.toNat.inj e)
      have h4 : decide (b < a) = !decide (a < b) := by
        rw [← decide_not]
        exact decide_eq_decide.2 (by rw [UInt8.lt_iff_toNat_lt, UInt8.lt_iff_toNat_lt]; omega)
      simp only [Op.bytesLess, h1, h2, Bool.false_and, Bool.or_false]
      exact h4
theorem bl_trans : ∀ x y z : List UInt8, Op.bytesLess x y = true → Op.bytesLess y z = true → Op.bytesLess x z = true
  | _, [], _, h, _ => by simp [Op.bytesLess] at h
  | _, _ :: _, [], _, h => by simp [Op.bytesLess] at h
  | [], _ :: _, _ :: _, _, _ => rfl
  | a :: x, b :: y, c :: z, h, g => by
    simp only [Op.bytesLess, Bool.or_eq_true, Bool.and_eq_true, decide_eq_true_eq, beq_iff_eq] at h g ⊢
    rcases h with h | ⟨rfl, h⟩
    · rcases g with g | ⟨rfl, g⟩
      · left
        rw [UInt8.lt_iff_toNat_lt] at *
        omega
      · exact .inl h
    · rcases g with g | ⟨rfl, g⟩
      · exact .inl g
      · exact .inr ⟨rfl, bl_trans x y z h g⟩

theorem less_irr (x : HD) : lessB x x = false := by simp [lessB]
theorem toList_ne {a b : ByteArray} (h : a ≠ b) : a.toList ≠ b.toList := fun e => h (str_inj e)
theorem less_asym {x y : HD} (h : x ≠ y) : lessB y x = !lessB x y := by
  obtain ⟨f, r, c⟩ := x
  obtain ⟨f2, r2, c2⟩ := y
  unfold lessB
  dsimp only
  by_cases hf : f = f2
  · subst hf
    by_cases hr : r = r2
    · subst hr
      have hc : c ≠ c2 := fun e => h (by rw [e])
      simp only [if_true]
      rw [← decide_not]
      exact decide_eq_decide.2 (by omega)
    · rw [if_pos rfl, if_pos rfl, if_neg hr, if_neg (fun e => hr e.symm), ← decide_not]
      exact decide_eq_decide.2 (by omega)
  · rw [if_neg hf, if_neg (fun e => hf e.symm)]
    exact bl_asym _ _ (toList_ne hf)
theorem less_trans {x y z : HD} (h : lessB x y = true) (g : lessB y z = true) : lessB x z = true := by
  obtain ⟨f, r, c⟩ := x
  obtain ⟨f2, r2, c2⟩ := y
  obtain ⟨f3, r3, c3⟩ := z
  unfold lessB at *
  dsimp only at *
  by_cases h1 : f = f2
  · subst h1
    rw [if_pos rfl] at h
    by_cases h2 : f = f3
    · subst h2
      rw [if_pos rfl] at g ⊢
      by_cases h3 : r = r2
      · subst h3
        rw [if_pos rfl] at h
        by_cases h4 : r = r3
        · subst h4
          rw [if_pos rfl] at g ⊢
          simp only [decide_eq_true_eq] at *
          omega
        · rw [if_neg h4] at g ⊢
          exact g
      · rw [if_neg h3] at h
        by_cases h4 : r2 = r3
        · subst h4
          rw [if_neg h3]
          exact h
        · rw [if_neg h4] at g
          simp only [decide_eq_true_eq] at h g
          rw [if_neg (by omega)]
          simp only [decide_eq_true_eq]
          omega
    · rw [if_neg h2] at g ⊢
      exact g
  · rw [if_neg h1] at h
    by_cases h2 : f2 = f3
    · subst h2
      rw [if_neg h1]
      exact h
    · rw [if_neg h2] at g
      have h3 : f ≠ f3 := fun e => by
        subst e
        have h4 := bl_asym _ _ (toList_ne h1)
        rw [h, g] at h4
        exact absurd h4 (by decide)
      rw [if_neg h3]
      exact bl_trans _ _ _ h g

/-- All rise. -/
def RisesL (l : List HD) : Prop := l.Pairwise (fun x y => lessB x y = true)
/-- Each is below the next. -/
def StepsL (l : List HD) : Prop := ∀ i x y, l[i]? = some x → l[i + 1]? = some y → lessB x y = true
theorem steps_rise : ∀ {l : List HD}, StepsL l → RisesL l
  | [], _ => List.Pairwise.nil
  | [x], _ => List.pairwise_singleton _ _
  | x :: y :: l, h => by
    have hr : RisesL (y :: l) := steps_rise (fun i a b ha hb => h (i + 1) a b (by simpa using ha) (by simpa using hb))
    have hxy : lessB x y = true := h 0 x y rfl rfl
    refine List.pairwise_cons.2 ⟨fun z hz => ?_, hr⟩
    rcases List.mem_cons.1 hz with rfl | hz
    · exact hxy
    · exact less_trans hxy ((List.pairwise_cons.1 hr).1 z hz)
theorem rise_steps {l : List HD} (h : RisesL l) : StepsL l := fun i x y hx hy => by
  obtain ⟨h1, rfl⟩ := List.getElem?_eq_some_iff.1 hx
  obtain ⟨h2, rfl⟩ := List.getElem?_eq_some_iff.1 hy
  exact List.pairwise_iff_getElem.1 h i (i + 1) h1 h2 (by omega)
theorem rise_nodup {l : List HD} (h : RisesL l) : l.Nodup := List.Pairwise.imp (fun {a b} hab e => by rw [e, less_irr] at hab; exact absurd hab (by decide)) h
theorem ins_rises : ∀ {l : List HD} {x : HD}, RisesL l → x ∉ l → RisesL (l.take (placeL l x) ++ ([x] ++ l.drop (placeL l x)))
  | [], x, _, _ => List.pairwise_singleton _ _
  | a :: l, x, h, hx => by
    obtain ⟨h1, h2⟩ := List.pairwise_cons.1 h
    have hxa : x ≠ a := fun e => hx (by rw [e]; exact List.mem_cons_self)
    have hxl : x ∉ l := fun e => hx (List.mem_cons_of_mem _ e)
    cases hl : lessB a x
    · have hk : placeL (a :: l) x = 0 := by simp [placeL, List.takeWhile_cons, hl]
      rw [hk]
      have hlt : lessB x a = true := by rw [less_asym (fun e => hxa e.symm), hl]; rfl
      refine List.pairwise_cons.2 ⟨fun z hz => ?_, h⟩
      rcases List.mem_cons.1 hz with rfl | hz
      · exact hlt
      · exact less_trans hlt (h1 z hz)
    · have hk : placeL (a :: l) x = placeL l x + 1 := by simp [placeL, List.takeWhile_cons, hl]
      rw [hk]
      refine List.pairwise_cons.2 ⟨fun z hz => ?_, ins_rises h2 hxl⟩
      rcases List.mem_append.1 hz with hz | hz
      · exact h1 z (List.mem_of_mem_take hz)
      · rcases List.mem_append.1 hz with hz | hz
        · rw [List.mem_singleton.1 hz]
          exact hl
        · exact h1 z (List.mem_of_mem_drop hz)
theorem put_rises {l : List HD} {x : HD} (hl : l.length ≤ 400) (h : RisesL l) : RisesL (putL l x) := by
  by_cases hx : x ∈ l
  · rw [putL_there (by omega) hx]
    exact h
  · rw [putL_new (by omega) hx]
    exact ins_rises h hx
theorem put_once {l : List HD} {x : HD} (hl : l.length ≤ 400) (h : RisesL l) : (putL l x).count x = 1 := by
  by_cases hx : x ∈ l
  · rw [putL_there (by omega) hx]
    rw [List.Nodup.count (rise_nodup h), if_pos hx]
  · rw [putL_new (by omega) hx]
    have h1 : (l.take (placeL l x)).count x = 0 := List.count_eq_zero.2 (fun e => hx (List.mem_of_mem_take e))
    have h2 : (l.drop (placeL l x)).count x = 0 := List.count_eq_zero.2 (fun e => hx (List.mem_of_mem_drop e))
    rw [List.count_append, List.count_append, h1, h2]
    simp
end Go.Proofs.YtpncnkihfijmaaaGreatDoor
