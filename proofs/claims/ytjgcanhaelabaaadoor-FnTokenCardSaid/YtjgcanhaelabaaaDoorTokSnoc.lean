/-
  Tokens: one more behind right ones; what is left of right ones; what shows of both.
-/
import Derived.Test.YtjgcanhaelabaaaDoorTokRev
import Derived.Test.YtjgcanhaelabaaaDoorShows
namespace Go.Proofs.YtjgcanhaelabaaaDoor
open Go.ChangeShapes Go.WideShapes Go.ChangeAt Go.RowKit Go.ChangeMaps
set_option maxRecDepth 10000
set_option linter.unusedSimpArgs false
set_option linter.unusedVariables false

theorem tAt_lt {l m : List TK} {i : Nat} (h : i < l.length) : tAt (l ++ m) i = tAt l i := by
  simp [tAt, List.getD, List.getElem?_append_left h]
theorem tAt_last (l : List TK) (x : TK) : tAt (l ++ [x]) l.length = x := by simp [tAt, List.getD]
theorem lastN_snoc (l : List TK) (x : TK) : lastN (l ++ [x]) = x.n := by
  rw [lastN, if_neg (by simp)]
  simp only [List.length_append, List.length_cons, List.length_nil, Nat.add_sub_cancel]
  rw [tAt_last]
theorem toksOk_all {l : List TK} (h : toksOkB l = true) (i : Nat) (hi : i < l.length) : tkAt l i = true := List.all_eq_true.1 ((Bool.and_eq_true _ _).mp h).2 i (List.mem_range.2 hi)
theorem toksOk_mk {l : List TK} (h1 : l.length ≤ 20) (h2 : ∀ i, i < l.length → tkAt l i = true) : toksOkB l = true := by
  rw [toksOk_len (fun i hi => h2 i hi), decide_eq_true h1]
theorem toksOk_snoc {l : List TK} {x : TK} (h : toksOkB l = true) (hl : l.length < 20) (hn : lastN l < x.n) (h1 : 1 ≤ x.n) (h2 : x.n ≤ 999) (hg : grantB x.h x.r x.t = true) : toksOkB (l ++ [x]) = true := by
  refine toksOk_mk (by simp; omega) fun i hi => ?_
  simp only [List.length_append, List.length_cons, List.length_nil] at hi
  rcases Nat.lt_or_ge i l.length with hlt | hge
  · have := toksOk_all h i hlt
    rw [tkAt] at this ⊢
    rw [tAt_lt hlt]
    by_cases h0 : i = 0
    · subst h0; simpa using this
    · rw [tAt_lt (show i - 1 < l.length by omega)]; exact this
  · obtain rfl : i = l.length := by omega
    rw [tkAt, tAt_last, hg, Bool.and_true]
    have e1 : inB x.n 1 999 = true := by simp [inB]; omega
    rw [e1, Bool.true_and]
    by_cases h0 : l.length = 0
    · simp [h0]
    · rw [tAt_lt (show l.length - 1 < l.length by omega)]
      rw [lastN, if_neg h0] at hn
      simp [hn]
theorem toksOk_nil : toksOkB [] = true := rfl

/-- Right tokens, in other words. -/
theorem toksOk_iff {l : List TK} : toksOkB l = true ↔ l.length ≤ 20 ∧ l.Pairwise (fun a b => a.n < b.n) ∧ ∀ x ∈ l, (1 ≤ x.n ∧ x.n ≤ 999) ∧ grantB x.h x.r x.t = true := by
  constructor
  · intro h
    refine ⟨toks_len h, toks_pair h, fun x hx => ?_⟩
    obtain ⟨i, hi, rfl⟩ := List.getElem_of_mem hx
    have := toks_at h (List.getElem?_eq_getElem hi)
    exact ⟨this.1, this.2.2⟩
  · rintro ⟨h1, h2, h3⟩
    refine toksOk_mk h1 fun i hi => ?_
    have hx := List.getElem?_eq_getElem hi
    obtain ⟨h4, h5⟩ := h3 l[i] (List.getElem_mem hi)
    rw [tkAt, tAt_of hx, h5, Bool.and_true]
    have e1 : inB l[i].n 1 999 = true := by simp [inB]; omega
    rw [e1, Bool.true_and]
    by_cases h0 : i = 0
    · simp [h0]
    · have h6 : i - 1 < l.length := by omega
      rw [tAt_of (List.getElem?_eq_getElem h6)]
      have := List.pairwise_iff_getElem.1 h2 (i - 1) i h6 hi (by omega)
      simp [this]
theorem toksOk_keep {l : List TK} {no : Int} (h : toksOkB l = true) : toksOkB (keepNo l no) = true := by
  obtain ⟨h1, h2, h3⟩ := toksOk_iff.1 h
  exact toksOk_iff.2 ⟨Nat.le_trans (keepNo_le l no) h1, h2.sublist List.filter_sublist, fun x hx => h3 x (List.mem_filter.1 hx).1⟩

/-- What was told of right things is right. -/
theorem issue_right {l : List TK} {h r t : Int} (hc : (issueT l h r t).2.2 = 0) : toksOkB (issueT l h r t).1 = true := by
  unfold issueT at hc ⊢
  split at hc
  · cases hc
  · split at hc
    · rename_i h1 h2
      split at hc
      · cases hc
      · rename_i h3
        have hb := lastN_bound h2.1
        have hl := toks_len h2.1
        rw [if_neg h1, if_pos h2, if_neg h3]
        exact toksOk_snoc h2.1 (by omega) (by show lastN l < lastN l + 1; omega) (by show 1 ≤ lastN l + 1; omega) (by show lastN l + 1 ≤ 999; omega) h2.2
    · cases hc
theorem revoke_right {l : List TK} {no : Int} (hc : (revokeT l no).2.2 = 0) : toksOkB (revokeT l no).1 = true := by
  unfold revokeT at hc ⊢
  split at hc
  · cases hc
  · split at hc
    · rename_i h1 h2
      split at hc
      · cases hc
      · rename_i h3
        rw [if_neg h1, if_pos h2, if_neg h3]
        exact toksOk_keep h2
    · cases hc
/-- A token that was given shows till its time. -/
theorem issue_shows {l : List TK} {h r t : Int} (hc : (issueT l h r t).2.2 = 0) : showT (issueT l h r t).1 (issueT l h r t).2.1 t = ⟨(issueT l h r t).2.1, h, r, t⟩ ∧ showT (issueT l h r t).1 (issueT l h r t).2.1 (t + 1) = tk0 := by
  have hr := issue_right hc
  unfold issueT at hc hr ⊢
  split at hc
  · cases hc
  · split at hc
    · rename_i h1 h2
      split at hc
      · cases hc
      · rename_i h3
        rw [if_neg h1, if_pos h2, if_neg h3] at hr ⊢
        have hm : (⟨lastN l + 1, h, r, t⟩ : TK) ∈ l ++ [⟨lastN l + 1, h, r, t⟩] := by simp
        have hf := findNo_mem (toks_pair hr) hm
        dsimp only at hf hr ⊢
        rw [showT, if_pos hr, showT, if_pos hr, showR, showR, hf]
        exact ⟨by rw [if_neg (by show ¬ t > t; omega)], by rw [if_pos (by show t + 1 > t; omega)]⟩
    · cases hc
/-- Revoked it does not. -/
theorem revoke_shows {l : List TK} {no : Int} (hc : (revokeT l no).2.2 = 0) : showT (revokeT l no).1 no 0 = tk0 := by
  have hr := revoke_right hc
  unfold revokeT at hc hr ⊢
  split at hc
  · cases hc
  · split at hc
    · rename_i h1 h2
      split at hc
      · cases hc
      · rename_i h3
        rw [if_neg h1, if_pos h2, if_neg h3] at hr ⊢
        dsimp only at hr ⊢
        rw [showT, if_pos hr, showR, findNo_none (fun x hx => by
          have := (List.mem_filter.1 hx).2
          simpa using this)]
        split <;> rfl
    · cases hc
end Go.Proofs.YtjgcanhaelabaaaDoor
