/-
  spec.ReqRight: the walk.
-/
import Derived.Test.YtpncnkihfijmaaaDoorReqS
import Derived.Test.YtpncnkihfijmaaaDoorBlocks
namespace Go.Proofs.YtpncnkihfijmaaaDoor
open Go.ChangeShapes Go.WideShapes Go.ChangeAt Go.RowKit Go.ChangeMaps
set_option maxRecDepth 10000
set_option linter.unusedSimpArgs false
set_option linter.unusedVariables false

set_option maxHeartbeats 400000 in
theorem l03HouseR_any (n : Int) (w : World) : Calls Tryd.prog 24 #[.int .i64 n] w fun e w' => e = .returned (.bool (inB n 1 4)) ∧ w = w' := by
  go_enter Tryd.func24, Tryd.ntmps24
  go_wp2_with (go_at_call 21; refine (l02Is_any _ _ _ _).mono ?_; rintro e w' ⟨rfl, rfl⟩)
  go_ret
  exact ⟨rfl, rfl⟩

theorem str_some {s : ByteArray} (h : s ≠ ⟨#[]⟩) : s.toList.isEmpty = false ∧ (s.toList == []) = false := by
  have h1 : s.toList ≠ [] := fun e => h (by
    apply str_inj
    rw [e, ByteArray.toList_eq])
  exact ⟨by simpa using h1, beq_eq_false_iff_ne.2 h1⟩

/-- The ways of a word that may be lacking. -/
theorem wordOr_ways (b : Bool) (s : ByteArray) : (wordOr b s = false ∧ ((b = true ∧ s = ⟨#[]⟩) ∨ (b = true ∧ s ≠ ⟨#[]⟩ ∧ wordB s = false) ∨ (b = false ∧ s ≠ ⟨#[]⟩))) ∨ (wordOr b s = true ∧ ((b = true ∧ s ≠ ⟨#[]⟩ ∧ wordB s = true) ∨ (b = false ∧ s = ⟨#[]⟩))) := by
  by_cases h : s = ⟨#[]⟩
  · subst h
    cases b
    · exact .inr ⟨by simp [wordOr], .inr ⟨rfl, rfl⟩⟩
    · exact .inl ⟨by simp [wordOr, wordB_empty], .inl ⟨rfl, rfl⟩⟩
  · cases b
    · exact .inl ⟨by simp [wordOr, h], .inr (.inr ⟨rfl, h⟩)⟩
    · cases hw : wordB s
      · exact .inl ⟨by simp [wordOr, hw], .inr (.inl ⟨rfl, h, rfl⟩)⟩
      · exact .inr ⟨by simp [wordOr, hw], .inl ⟨rfl, h, rfl⟩⟩

set_option maxRecDepth 100000 in
set_option maxHeartbeats 8000000 in
theorem sReqRight_any (k t h l : Int) (n f : ByteArray) (r c o : Int) (w : World) (hn : n.size ≤ maxLen) (hf : f.size ≤ maxLen) :
    Calls Tryd.prog 11 #[reqV k t h l n f r c o] w fun e w' => e = .returned (.bool (reqB ⟨k, t, h, l, n, f, r, c, o⟩)) ∧ Below w.heap.size w w' := by
  have HD : Hid (reqB ⟨k, t, h, l, n, f, r, c, o⟩ = (inB k 1 10 && (inB t 1 999 && (placeB (hasPb k) h l && ((wordOr (hasNb k) n && wordOr (hasFb k) f) && (seatOr (hasSb k) r c && toOr (hasTb k) o)))))) := rfl
  have HTk : Hid (∀ W : World, Calls Tryd.prog 22 #[.int .i64 k] W fun e w' => e = .returned (.string (takesT k)) ∧ W = w') := fun W => l06Takes_any k W
  have HH : Hid (∀ (c : Int) (W : World), Calls Tryd.prog 23 #[.string (takesT k), .int .u8 c] W fun e w' => e = .returned (.bool (hasC (takesT k) c)) ∧ W = w') := fun c W => l06Has_any _ c W (Nat.le_trans (takesT_size k) (by omega))
  have HSR : Hid (∀ W : World, Calls Tryd.prog 26 #[seatV r c] W fun e w' => e = .returned (.bool (seatB r c)) ∧ Below W.heap.size W w') := fun W => sSeatRight_any r c W
  have tb := takes_b k
  have tn := takes_n k
  have tf := takes_f k
  have ts := takes_s k
  have tt := takes_t k
  generalize hasPb k = bP at *
  generalize hasNb k = bN at *
  generalize hasFb k = bF at *
  generalize hasSb k = bS at *
  generalize hasTb k = bT at *
  generalize takesT k = T at *
  generalize reqB ⟨k, t, h, l, n, f, r, c, o⟩ = R at *
  cases k1 : inB k 1 10
  · have HR : Hid (R = false) := by rw [Hid, HD.out, k1]; rfl
    clear HD HTk HH HSR tb tn tf ts tt
    go_enter Tryd.func11, Tryd.ntmps11
    go_wp2_with (go_at_call 21; refine (l02Is_any _ _ _ _).mono ?_; rintro e w' ⟨rfl, rfl⟩)
    go_ret
    exact ⟨ret_bool HR.out.symm, by go_grown⟩
  cases k2 : inB t 1 999
  · have HR : Hid (R = false) := by rw [Hid, HD.out, k1, k2]; rfl
    clear HD HTk HH HSR tb tn tf ts tt
    go_enter Tryd.func11, Tryd.ntmps11
    go_wp2_with (go_at_call 21; refine (l02Is_any _ _ _ _).mono ?_; rintro e w' ⟨rfl, rfl⟩)
    go_ret
    exact ⟨ret_bool HR.out.symm, by go_grown⟩
  rw [k1, k2] at HD
  have HD2 : Hid (R = (placeB bP h l && ((wordOr bN n && wordOr bF f) && (seatOr bS r c && toOr bT o)))) := HD
  clear HD
  cases k3 : placeB bP h l
  · have HR : Hid (R = false) := by rw [Hid, HD2.out, k3]; rfl
    clear HD2 HSR tn tf ts tt
    cases bP
    · rw [placeB, if_neg (by simp)] at k3
      by_cases h0 : h = 0
      · subst h0
        have l0 : ¬ l = 0 := fun e => by subst e; simp at k3
        have l1 : (l == 0) = false := beq_eq_false_iff_ne.2 l0
        have l2 : (l != 0) = true := bne_iff_ne.2 l0
        clear k3 l0
        go_enter Tryd.func11, Tryd.ntmps11
        go_wp2_with (first | (go_at_call 21; refine (l02Is_any _ _ _ _).mono ?_; rintro e w' ⟨rfl, rfl⟩) | (go_at_call 22; refine (HTk.out _).mono ?_; rintro e w' ⟨rfl, rfl⟩) | (go_at_call 23; refine (HH.out _ _).mono ?_; rintro e w' ⟨rfl, rfl⟩))
        go_ret
        exact ⟨ret_bool HR.out.symm, by go_grown⟩
      · have l1 : (h == 0) = false := beq_eq_false_iff_ne.2 h0
        have l2 : (h != 0) = true := bne_iff_ne.2 h0
        clear k3 h0
        go_enter Tryd.func11, Tryd.ntmps11
        go_wp2_with (first | (go_at_call 21; refine (l02Is_any _ _ _ _).mono ?_; rintro e w' ⟨rfl, rfl⟩) | (go_at_call 22; refine (HTk.out _).mono ?_; rintro e w' ⟨rfl, rfl⟩) | (go_at_call 23; refine (HH.out _ _).mono ?_; rintro e w' ⟨rfl, rfl⟩))
        go_ret
        exact ⟨ret_bool HR.out.symm, by go_grown⟩
    · rw [placeB, if_pos rfl] at k3
      cases h0 : inB h 1 4
      · clear k3
        go_enter Tryd.func11, Tryd.ntmps11
        go_wp2_with (first | (go_at_call 21; refine (l02Is_any _ _ _ _).mono ?_; rintro e w' ⟨rfl, rfl⟩) | (go_at_call 22; refine (HTk.out _).mono ?_; rintro e w' ⟨rfl, rfl⟩) | (go_at_call 23; refine (HH.out _ _).mono ?_; rintro e w' ⟨rfl, rfl⟩) | (go_at_call 24; refine (l03HouseR_any _ _).mono ?_; rintro e w' ⟨rfl, rfl⟩))
        go_ret
        exact ⟨ret_bool HR.out.symm, by go_grown⟩
      · rw [h0, Bool.true_and] at k3
        go_enter Tryd.func11, Tryd.ntmps11
        go_wp2_with (first | (go_at_call 21; refine (l02Is_any _ _ _ _).mono ?_; rintro e w' ⟨rfl, rfl⟩) | (go_at_call 22; refine (HTk.out _).mono ?_; rintro e w' ⟨rfl, rfl⟩) | (go_at_call 23; refine (HH.out _ _).mono ?_; rintro e w' ⟨rfl, rfl⟩) | (go_at_call 24; refine (l03HouseR_any _ _).mono ?_; rintro e w' ⟨rfl, rfl⟩))
        go_ret
        exact ⟨ret_bool HR.out.symm, by go_grown⟩
  rw [k3, Bool.true_and] at HD2
  have hW : Below w.heap.size w (w.alloc (.cells #[.int .i64 k, .int .i64 t, .int .i64 h, .int .i64 l, .string n, .string f, .int .i64 r, .int .i64 c, .int .i64 o] 30)) := by go_grown
  have hBl := Block.new w #[.int .i64 k, .int .i64 t, .int .i64 h, .int .i64 l, .string n, .string f, .int .i64 r, .int .i64 c, .int .i64 o] 30
  go_enter Tryd.func11, Tryd.ntmps11
  go_upto_if 18 with (first | (go_at_call 21; refine (l02Is_any _ _ _ _).mono ?_; rintro e w' ⟨rfl, rfl⟩) | (go_at_call 22; refine (HTk.out _).mono ?_; rintro e w' ⟨rfl, rfl⟩) | (go_at_call 23; refine (HH.out _ _).mono ?_; rintro e w' ⟨rfl, rfl⟩))
  go_cut [] from 17 (fun W => W = w.alloc (.cells #[.int .i64 k, .int .i64 t, .int .i64 h, .int .i64 l, .string n, .string f, .int .i64 r, .int .i64 c, .int .i64 o] 30))
  case first =>
    cases bP
    · rw [placeB, if_neg (by simp)] at k3
      simp only [Bool.and_eq_true, decide_eq_true_eq] at k3
      obtain ⟨rfl, rfl⟩ := k3
      go_wp2_with (go_at_call 23; refine (HH.out _ _).mono ?_; rintro e w' ⟨rfl, rfl⟩)
      go_meet
      rfl
    · rw [placeB, if_pos rfl] at k3
      simp only [Bool.and_eq_true] at k3
      obtain ⟨k4, k5⟩ := k3
      go_wp2_with (first | (go_at_call 23; refine (HH.out _ _).mono ?_; rintro e w' ⟨rfl, rfl⟩) | (go_at_call 21; refine (l02Is_any _ _ _ _).mono ?_; rintro e w' ⟨rfl, rfl⟩) | (go_at_call 24; refine (l03HouseR_any _ _).mono ?_; rintro e w' ⟨rfl, rfl⟩))
      go_meet
      rfl
  case rest =>
    subst hcut
    clear k3 tb k1 k2
    have e4 : ∀ p : Cls (w.alloc (.cells #[.int .i64 k, .int .i64 t, .int .i64 h, .int .i64 l, .string n, .string f, .int .i64 r, .int .i64 c, .int .i64 o] 30)), p.W.cell? ⟨w.heap.size, 4, none⟩ = some (.string n) := Cls.cell (hBl.cell 4)
    have e5 : ∀ p : Cls (w.alloc (.cells #[.int .i64 k, .int .i64 t, .int .i64 h, .int .i64 l, .string n, .string f, .int .i64 r, .int .i64 c, .int .i64 o] 30)), p.W.cell? ⟨w.heap.size, 5, none⟩ = some (.string f) := Cls.cell (hBl.cell 5)
    have Hh : Hid (∀ (x : Int) (p : Cls (w.alloc (.cells #[.int .i64 k, .int .i64 t, .int .i64 h, .int .i64 l, .string n, .string f, .int .i64 r, .int .i64 c, .int .i64 o] 30))), Calls Tryd.prog 23 #[.string T, .int .u8 x] p.W fun e w'' => e = .returned (.bool (hasC T x)) ∧ ∃ p' : Cls (w.alloc (.cells #[.int .i64 k, .int .i64 t, .int .i64 h, .int .i64 l, .string n, .string f, .int .i64 r, .int .i64 c, .int .i64 o] 30)), w'' = p'.W) := fun x p => Cls.same (HH.out x p.W)
    have Hn : Hid (∀ p : Cls (w.alloc (.cells #[.int .i64 k, .int .i64 t, .int .i64 h, .int .i64 l, .string n, .string f, .int .i64 r, .int .i64 c, .int .i64 o] 30)), Calls Tryd.prog 25 #[.string n] p.W fun e w'' => e = .returned (.bool (wordB n)) ∧ ∃ p' : Cls (w.alloc (.cells #[.int .i64 k, .int .i64 t, .int .i64 h, .int .i64 l, .string n, .string f, .int .i64 r, .int .i64 c, .int .i64 o] 30)), w'' = p'.W) := fun p => Cls.same (sWord_any n p.W hn)
    have Hf : Hid (∀ p : Cls (w.alloc (.cells #[.int .i64 k, .int .i64 t, .int .i64 h, .int .i64 l, .string n, .string f, .int .i64 r, .int .i64 c, .int .i64 o] 30)), Calls Tryd.prog 25 #[.string f] p.W fun e w'' => e = .returned (.bool (wordB f)) ∧ ∃ p' : Cls (w.alloc (.cells #[.int .i64 k, .int .i64 t, .int .i64 h, .int .i64 l, .string n, .string f, .int .i64 r, .int .i64 c, .int .i64 o] 30)), w'' = p'.W) := fun p => Cls.same (sWord_any f p.W hf)
    clear hn hf HTk
    have dN := wordOr_ways bN n
    have dF := wordOr_ways bF f
    generalize wordOr bN n = oN at *
    generalize wordOr bF f = oF at *
    go_upto_region 9 with fail
    go_cut [72] from 17 (fun v W => v = .bool (!(oN && oF)) ∧ Below w.heap.size w W ∧ Block W w.heap.size 30 #[.int .i64 k, .int .i64 t, .int .i64 h, .int .i64 l, .string n, .string f, .int .i64 r, .int .i64 c, .int .i64 o])
    case first =>
      have HE : Hid (∀ W, Below (w.alloc (.cells #[.int .i64 k, .int .i64 t, .int .i64 h, .int .i64 l, .string n, .string f, .int .i64 r, .int .i64 c, .int .i64 o] 30)).heap.size (w.alloc (.cells #[.int .i64 k, .int .i64 t, .int .i64 h, .int .i64 l, .string n, .string f, .int .i64 r, .int .i64 c, .int .i64 o] 30)) W → Below w.heap.size w W ∧ Block W w.heap.size 30 #[.int .i64 k, .int .i64 t, .int .i64 h, .int .i64 l, .string n, .string f, .int .i64 r, .int .i64 c, .int .i64 o]) := fun W hX => ⟨hW.trans (hX.mono hW.size), hBl.on hX⟩
      clear HSR ts tt hBl hW HD2
      rcases dN with ⟨rfl, ⟨rfl, rfl⟩ | ⟨rfl, hne, hw⟩ | ⟨rfl, hne⟩⟩ | ⟨rfl, ⟨rfl, hne, hw⟩ | ⟨rfl, rfl⟩⟩
      · clear dF
        refine wp_region_cls (by kernel_rfl) (by kernel_rfl) ?_
        repeat (go_big_quiet_step (first | (go_at_call 23; exact Hh.out _ _) | (go_at_call 25; first | (with_reducible exact Hn.out _) | (with_reducible exact Hf.out _))))
        refine wpQuiet_nil ?_
        rintro _ ⟨⟨W, hX⟩, rfl⟩
        have hQ := HE.out _ hX
        go_wp2_with fail
        go_meet
        exact ⟨rfl, hQ⟩
      · clear dF
        obtain ⟨q1, q2⟩ := str_some hne
        clear hne
        refine wp_region_cls (by kernel_rfl) (by kernel_rfl) ?_
        repeat (go_big_quiet_step (first | (go_at_call 23; exact Hh.out _ _) | (go_at_call 25; first | (with_reducible exact Hn.out _) | (with_reducible exact Hf.out _))))
        refine wpQuiet_nil ?_
        rintro _ ⟨⟨W, hX⟩, rfl⟩
        have hQ := HE.out _ hX
        go_wp2_with fail
        go_meet
        exact ⟨rfl, hQ⟩
      · clear dF
        obtain ⟨q1, q2⟩ := str_some hne
        clear hne
        refine wp_region_cls (by kernel_rfl) (by kernel_rfl) ?_
        repeat (go_big_quiet_step (first | (go_at_call 23; exact Hh.out _ _) | (go_at_call 25; first | (with_reducible exact Hn.out _) | (with_reducible exact Hf.out _))))
        refine wpQuiet_nil ?_
        rintro _ ⟨⟨W, hX⟩, rfl⟩
        have hQ := HE.out _ hX
        go_wp2_with fail
        go_meet
        exact ⟨rfl, hQ⟩
      · obtain ⟨q1, q2⟩ := str_some hne
        clear hne
        rcases dF with ⟨rfl, ⟨rfl, rfl⟩ | ⟨rfl, hne, hw2⟩ | ⟨rfl, hne⟩⟩ | ⟨rfl, ⟨rfl, hne, hw2⟩ | ⟨rfl, rfl⟩⟩
        all_goals try (obtain ⟨q3, q4⟩ := str_some hne; clear hne)
        all_goals
          refine wp_region_cls (by kernel_rfl) (by kernel_rfl) ?_
          repeat (go_big_quiet_step (first | (go_at_call 23; exact Hh.out _ _) | (go_at_call 25; first | (with_reducible exact Hn.out _) | (with_reducible exact Hf.out _))))
          refine wpQuiet_nil ?_
          rintro _ ⟨⟨W, hX⟩, rfl⟩
          have hQ := HE.out _ hX
          go_wp2_with fail
          go_meet
          exact ⟨rfl, hQ⟩
      · rcases dF with ⟨rfl, ⟨rfl, rfl⟩ | ⟨rfl, hne, hw2⟩ | ⟨rfl, hne⟩⟩ | ⟨rfl, ⟨rfl, hne, hw2⟩ | ⟨rfl, rfl⟩⟩
        all_goals try (obtain ⟨q3, q4⟩ := str_some hne; clear hne)
        all_goals
          refine wp_region_cls (by kernel_rfl) (by kernel_rfl) ?_
          repeat (go_big_quiet_step (first | (go_at_call 23; exact Hh.out _ _) | (go_at_call 25; first | (with_reducible exact Hn.out _) | (with_reducible exact Hf.out _))))
          refine wpQuiet_nil ?_
          rintro _ ⟨⟨W, hX⟩, rfl⟩
          have hQ := HE.out _ hX
          go_wp2_with fail
          go_meet
          exact ⟨rfl, hQ⟩
    case rest =>
      obtain ⟨rfl, hB, hBk⟩ := hcut
      clear hBl hW dN dF Hh Hn Hf e4 e5 tn tf
      have x0 := hBk.cell
      cases h9 : oN && oF
      · have HR : Hid (R = false) := by rw [Hid, HD2.out, h9]; rfl
        clear HD2 HSR HH ts tt
        go_wp2_with fail
        go_ret
        exact ⟨ret_bool HR.out.symm, hB⟩
      rw [h9, Bool.true_and] at HD2
      cases bS
      · by_cases r0 : r = 0
        · by_cases c0 : c = 0
          · subst r0 c0
            have HR : Hid (R = toOr bT o) := by rw [Hid, HD2.out]; simp [seatOr]
            clear HD2 HSR
            cases bT
            · have HR2 : Hid (R = decide (o = 0)) := by rw [Hid, HR.out]; simp [toOr]
              clear HR
              go_wp2_with (go_at_call 23; refine (HH.out _ _).mono ?_; rintro e w' ⟨rfl, rfl⟩)
              go_ret
              exact ⟨ret_bool (by rw [HR2.out]; first | rfl | (rw [Bool.eq_iff_iff]; simp)), hB⟩
            · have HR2 : Hid (R = inB o 1 4) := by rw [Hid, HR.out]; simp [toOr]
              clear HR
              cases ho : inB o 1 4
              all_goals
                go_wp2_with (first | (go_at_call 23; refine (HH.out _ _).mono ?_; rintro e w' ⟨rfl, rfl⟩) | (go_at_call 24; refine (l03HouseR_any _ _).mono ?_; rintro e w' ⟨rfl, rfl⟩))
                go_ret
                exact ⟨ret_bool (by rw [HR2.out, ho]), hB⟩
          · subst r0
            have HR : Hid (R = false) := by rw [Hid, HD2.out]; simp [seatOr, c0]
            have q1 : (c == 0) = false := beq_eq_false_iff_ne.2 c0
            clear HD2 HSR tt
            go_wp2_with (go_at_call 23; refine (HH.out _ _).mono ?_; rintro e w' ⟨rfl, rfl⟩)
            go_ret
            exact ⟨ret_bool HR.out.symm, hB⟩
        · have HR : Hid (R = false) := by rw [Hid, HD2.out]; simp [seatOr, r0]
          have q1 : (r == 0) = false := beq_eq_false_iff_ne.2 r0
          clear HD2 HSR tt
          go_wp2_with (go_at_call 23; refine (HH.out _ _).mono ?_; rintro e w' ⟨rfl, rfl⟩)
          go_ret
          exact ⟨ret_bool HR.out.symm, hB⟩
      · cases hs : seatB r c
        · have HR : Hid (R = false) := by rw [Hid, HD2.out]; simp [seatOr, hs]
          clear HD2 tt
          go_wp2_with (first | (go_at_call 23; refine (HH.out _ _).mono ?_; rintro e w' ⟨rfl, rfl⟩) | (go_at_call 26; refine (HSR.out _).mono ?_; rintro e w2 ⟨rfl, hb2⟩))
          go_ret
          exact ⟨ret_bool HR.out.symm, hB.trans (hb2.mono hB.size)⟩
        · have HR : Hid (R = toOr bT o) := by rw [Hid, HD2.out]; simp [seatOr, hs]
          clear HD2
          cases bT
          · have HR2 : Hid (R = decide (o = 0)) := by rw [Hid, HR.out]; simp [toOr]
            clear HR
            go_wp2_with (first | (go_at_call 23; refine (HH.out _ _).mono ?_; rintro e w' ⟨rfl, rfl⟩) | (go_at_call 26; refine (HSR.out _).mono ?_; rintro e w2 ⟨rfl, hb2⟩; have x2 := (hBk.on hb2).cell))
            go_ret
            exact ⟨ret_bool (by rw [HR2.out]; first | rfl | (rw [Bool.eq_iff_iff]; simp)), hB.trans (hb2.mono hB.size)⟩
          · have HR2 : Hid (R = inB o 1 4) := by rw [Hid, HR.out]; simp [toOr]
            clear HR
            cases ho : inB o 1 4
            all_goals
              go_wp2_with (first | (go_at_call 23; refine (HH.out _ _).mono ?_; rintro e w' ⟨rfl, rfl⟩) | (go_at_call 26; refine (HSR.out _).mono ?_; rintro e w2 ⟨rfl, hb2⟩; have x2 := (hBk.on hb2).cell) | (go_at_call 24; refine (l03HouseR_any _ _).mono ?_; rintro e w' ⟨rfl, rfl⟩))
              go_ret
              exact ⟨ret_bool (by rw [HR2.out, ho]), hB.trans (hb2.mono hB.size)⟩
end Go.Proofs.YtpncnkihfijmaaaDoor
