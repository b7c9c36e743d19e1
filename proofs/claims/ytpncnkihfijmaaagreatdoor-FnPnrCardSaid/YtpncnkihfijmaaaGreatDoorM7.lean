/-
  l01Dec: a number in digits. SeatText: both functions write out a seat. spec.SeatText writes out a seat. Numbers, places and seats as texts, as both sides write them. The text of a booking, as both functions write it.
-/
import Derived.Test.YtpncnkihfijmaaaGreatDoorM1
import Derived.Test.YtpncnkihfijmaaaGreatDoorShelfZ
import Derived.Deep.RegionHeld3
import Derived.Deep.RegionWith
import Derived.Test.YtpncnkihfijmaaaGreatDoorJoinedZ
import Derived.Test.YtpncnkihfijmaaaGreatDoorM2
namespace Go.Proofs.YtpncnkihfijmaaaGreatDoor
open Go.ChangeShapes Go.WideShapes Go.ChangeAt Go.RowKit Go.ChangeMaps
set_option maxRecDepth 10000
set_option linter.unusedSimpArgs false
set_option linter.unusedVariables false

set_option maxHeartbeats 1000000 in
theorem l01Dec_nat (n : Nat) (w : World) (hn : n ≤ 9223372036854775807) : Calls Tryz.prog 79 #[.int .i64 n] w fun e w' => e = .returned (.string ⟨(Lib.decDigits n).toArray⟩) ∧ Below w.heap.size w w' := by
  by_cases h0 : n = 0
  · subst h0
    go_enter Tryz.func79, Tryz.ntmps79
    go_wp2
    go_ret
    refine ⟨?_, Below.refl _ _⟩
    rw [Lib.decDigits, dif_pos (by omega)]
    rfl
  have hb0 : ((n : Int) == 0) = false := by rw [beq_eq_false_iff_ne]; omega
  have hD : decU n ++ [] = Lib.decDigits n := by rw [decU, if_neg h0, List.append_nil]
  generalize Lib.decDigits n = R at *
  have HD := Lib.hid hD
  clear hD
  go_enter Tryz.func79, Tryz.ntmps79
  go_wp2
  go_loopw [0, 4] (fun x v wr => ∃ (u : Nat) (l : List UInt8), x = .int .i64 (u : Int) ∧ u ≤ n ∧ v = .string ⟨l.toArray⟩ ∧ Hid (decU u ++ l = R) ∧ l.length + u ≤ n ∧ Below w.heap.size w wr) (fun x _ _ => (intOf x).toNat)
  case atStart => exact ⟨n, [], rfl, Nat.le_refl _, rfl, HD, by simp, Below.refl _ _⟩
  case round =>
    obtain ⟨u, l, rfl, hu, rfl, hl, hln, hB⟩ := hrel
    by_cases hu0 : u = 0
    · subst hu0
      go_wp2
      go_ret
      refine ⟨?_, hB⟩
      rw [← hl.out]
      rfl
    · have hne : ((u : Int) != 0) = true := by rw [bne_iff_ne]; omega
      have hs := Lib.hid (decU_step (u := u) (by omega) l)
      have hb : ((UInt8.ofNat (48 + u % 10)).toNat : Int) = 48 + (u : Int) % 10 := by rw [ofNat_toNat (by omega)]; omega
      generalize UInt8.ofNat (48 + u % 10) = b at *
      have HB := Lib.hid hb
      have ha := Lib.hid (bappend [b] ⟨l.toArray⟩)
      clear hb
      go_wp2_with (refine wpList_str_one Tryz.underlying31 Tryz.underlying5 Tryz.underlying9 b ?_ rfl ?_; rotate_left)
      · go_roundw
        case rel => exact ⟨u / 10, _, by go_num, by omega, congrArg Value.string ha.out, by rw [← hl.out, hs.out]; rfl, by simp; omega, hB.alloc hB.size _⟩
        case measure => simp [intOf]; omega
      · exact HB.out.symm
end Go.Proofs.YtpncnkihfijmaaaGreatDoor
namespace Go.Proofs.YtpncnkihfijmaaaGreatDoor
open Go.ChangeShapes Go.WideShapes Go.ChangeAt Go.RowKit Go.ChangeMaps
set_option maxRecDepth 10000
set_option linter.unusedSimpArgs false
set_option linter.unusedVariables false

/-- What SeatText answers. -/
def seatTextL (r c : Int) : List UInt8 := if seatB r c = true then Lib.decDigits r.toNat ++ [UInt8.ofNat (97 + c.toNat)] else []
theorem seatB_parts {r c : Int} (h : seatB r c = true) : (1 ≤ r ∧ r ≤ 20) ∧ 0 ≤ c ∧ c ≤ 5 := by
  simp [seatB] at h
  exact ⟨⟨h.1, h.2.1⟩, h.2.2.1, h.2.2.2⟩

theorem formatSmall (n : Nat) (hn : n < 100) (w : World) : Calls Tryz.prog 100 #[.int .i64 n, .int .i64 10] w fun e w' => e = .returned (.string ⟨(Lib.decDigits n).toArray⟩) ∧ w = w' :=
  (Tryz.strconv_FormatInt_10_small n hn w).mono fun e w' h => ⟨h.1, h.2.symm⟩

set_option maxHeartbeats 1000000 in
theorem iSeatText_any (r c : Int) (w : World) : Calls Tryz.prog 67 #[seatV r c] w fun e w' => e = .returned (.string ⟨(seatTextL r c).toArray⟩) ∧ Below w.heap.size w w' := by
  have HS : Hid (∀ W : World, Calls Tryz.prog 105 #[seatV r c] W fun e w' => e = .returned (.bool (seatB r c)) ∧ Below W.heap.size W w') := fun W => iSeatRight_any r c W
  obtain ⟨b, hb⟩ : ∃ b, seatB r c = b := ⟨_, rfl⟩
  have HB := Lib.hid hb
  rw [hb] at HS
  cases b
  · clear hb
    go_enter Tryz.func67, Tryz.ntmps67
    go_wp2_with fail
    refine (HS.out _).mono ?_
    rintro e w1 ⟨rfl, hb1⟩
    go_wp2_with fail
    go_ret
    exact ⟨by rw [seatTextL, if_neg (by rw [HB.out]; simp)]; rfl, ((Below.refl _ _).alloc (Nat.le_refl _) _).trans (hb1.mono (by simp))⟩
  · obtain ⟨⟨r1, r2⟩, c1, c2⟩ := seatB_parts hb
    clear hb
    obtain ⟨r, rfl⟩ := nat_of (show 0 ≤ r by omega)
    obtain ⟨c, rfl⟩ := nat_of c1
    have HF : Hid (∀ W : World, Calls Tryz.prog 100 #[.int .i64 r, .int .i64 10] W fun e w' => e = .returned (.string ⟨(Lib.decDigits r).toArray⟩) ∧ W = w') := fun W => formatSmall r (by omega) W
    have HR : Hid (seatTextL (r : Int) (c : Int) = Lib.decDigits r ++ [UInt8.ofNat (97 + c)]) := by rw [Hid, seatTextL, if_pos HB.out]; rfl
    have hDl : (Lib.decDigits r).length ≤ 2 := by
      by_cases h : r < 10
      · rw [Lib.decDigits_one h]; simp
      · rw [Lib.decDigits_two h (by omega)]; simp
    generalize Lib.decDigits r = D at *
    have hlt : ((UInt8.ofNat (97 + c)).toNat : Int) = 97 + (c : Int) := by rw [ofNat_toNat (by omega)]; omega
    generalize UInt8.ofNat (97 + c) = b at *
    have HL := Lib.hid hlt
    clear hlt
    go_enter Tryz.func67, Tryz.ntmps67
    go_wp2_with fail
    refine (HS.out _).mono ?_
    rintro e w1 ⟨rfl, hb1⟩
    have hz : w.heap.size < w1.heap.size := by have := hb1.size; simp at this; omega
    have c00 := kc hb1 (b := w.heap.size) (i := 0) (v := .int .i64 r) (by go_simp) (by simp)
    have c01 := kc hb1 (b := w.heap.size) (i := 1) (v := .int .i64 c) (by go_simp) (by simp)
    have hB : Below w.heap.size w w1 := ((Below.refl _ _).alloc (Nat.le_refl _) _).trans (hb1.mono (by simp))
    have hBd := hB.drew
    clear hb1
    have hcv := run_str_one (P := Tryz.prog) w1 (e' := 5) Tryz.underlying31 Tryz.underlying5 Tryz.underlying9 b HL.out.symm
    go_wp2_with fail
    go_region_with (go_at_call 100; refine (HF.out _).mono ?_; rintro e w' ⟨rfl, rfl⟩)
    all_goals
      have ha := Lib.hid (bappend D ⟨[b].toArray⟩)
      clear hcv hBd c00 c01
      go_wp2
      go_ret
      refine ⟨?_, (hB.alloc (by omega) _).drew⟩
      rw [HR.out]
      exact congrArg (fun z => Ending.returned (.string z)) ha.out
end Go.Proofs.YtpncnkihfijmaaaGreatDoor
namespace Go.Proofs.YtpncnkihfijmaaaGreatDoor
open Go.ChangeShapes Go.WideShapes Go.ChangeAt Go.RowKit Go.ChangeMaps
set_option maxRecDepth 10000
set_option linter.unusedSimpArgs false
set_option linter.unusedVariables false

theorem letters_at (c : Nat) (hc : c ≤ 5) : ByteArray.extract ⟨#[97, 98, 99, 100, 101, 102]⟩ c (c + 1) = ⟨[UInt8.ofNat (97 + c)].toArray⟩ := by
  have h : c = 0 ∨ c = 1 ∨ c = 2 ∨ c = 3 ∨ c = 4 ∨ c = 5 := by omega
  rcases h with rfl | rfl | rfl | rfl | rfl | rfl <;> decide +kernel

set_option maxHeartbeats 1000000 in
theorem l02Text_any (r c : Nat) (w : World) (hr : r ≤ 20) (hc : c ≤ 5) : Calls Tryz.prog 80 #[seatV r c] w fun e w' => e = .returned (.string ⟨(Lib.decDigits r ++ [UInt8.ofNat (97 + c)]).toArray⟩) ∧ Below w.heap.size w w' := by
  have HF : Hid (∀ W : World, Calls Tryz.prog 79 #[.int .i64 r] W fun e w' => e = .returned (.string ⟨(Lib.decDigits r).toArray⟩) ∧ Below W.heap.size W w') := fun W => l01Dec_nat r W (by omega)
  have hDl : (Lib.decDigits r).length ≤ 2 := by
    by_cases h : r < 10
    · rw [Lib.decDigits_one h]; simp
    · rw [Lib.decDigits_two h (by omega)]; simp
  generalize Lib.decDigits r = D at *
  have hcI0 : (0 : Int) ≤ c := by omega
  have hcI : (c : Int) ≤ 5 := by omega
  have hwr : IntKind.i64.wrap ((c : Int) + 1) = (c : Int) + 1 := IntWalk.i64_in _ (by omega)
  have hB0 : Below w.heap.size w (w.alloc (.cells #[.int .i64 r, .int .i64 c] 23)).drew := ((Below.refl _ _).alloc (Nat.le_refl _) _).drew
  have hsl : ∀ W : World, (Instr.slice 9 (.string ⟨#[97, 98, 99, 100, 101, 102]⟩) (some (.int .i64 (c : Int))) (some (.int .i64 ((c : Int) + 1))) none).run Tryz.prog W = .ok (.string ⟨[UInt8.ofNat (97 + c)].toArray⟩) W := fun W => by
    have h := run_slice_string (P := Tryz.prog) W 9 ⟨#[97, 98, 99, 100, 101, 102]⟩ .i64 .i64 (c : Int) ((c : Int) + 1) Tryz.underlying9 (by omega) (by omega) (by show _ ≤ ((6 : Nat) : Int); omega)
    rw [← letters_at c hc]
    exact h
  generalize UInt8.ofNat (97 + c) = b at *
  have hlen : (ByteArray.mk D.toArray).size + (ByteArray.mk [b].toArray).size ≤ 9223372036854775807 := by rw [bsize, bsize]; simp; omega
  have hadd : ∀ W : World, (Op.stringOp .add ⟨D.toArray⟩ ⟨[b].toArray⟩).run Tryz.prog W = .ok (.string ⟨(D ++ [b]).toArray⟩) W := fun W => by
    rw [run_string_add_sum _ _ _ hlen, bappend]
  go_enter Tryz.func80, Tryz.ntmps80
  go_wp2_with fail
  go_region_held3 (fun W => W.cell? ⟨w.heap.size, 0, none⟩ = some (.int .i64 r) ∧ W.cell? ⟨w.heap.size, 1, none⟩ = some (.int .i64 c) ∧ Below w.heap.size w W ∧ w.heap.size + 1 ≤ W.heap.size)
    (first | (go_keep; done) | (go_split_ands; exact ⟨kc hb (by assumption) (by omega), kc hb (by assumption) (by omega), bstep hb (by assumption) (by omega), zstep hb (by assumption)⟩))
    (first | (go_at_call 79; refine (HF.out _).mono ?_; rintro e w' ⟨rfl, hb⟩))
  rename_i hHeld
  obtain ⟨-, -, hB, -⟩ := hHeld
  go_wp2_with fail
  go_ret
  exact ⟨rfl, hB⟩
end Go.Proofs.YtpncnkihfijmaaaGreatDoor
namespace Go.Proofs.YtpncnkihfijmaaaGreatDoor
open Go.ChangeShapes Go.WideShapes Go.ChangeAt Go.RowKit Go.ChangeMaps
set_option maxRecDepth 10000
set_option linter.unusedSimpArgs false
set_option linter.unusedVariables false

theorem wordB_le {s : ByteArray} (h : wordB s = true) : s.size ≤ 8 := (of_decide_eq_true h).2.1
def dgT (n : Int) : ByteArray := ⟨(Lib.decDigits n.toNat).toArray⟩
theorem dgT_size {n : Int} (h0 : 0 ≤ n) (h1 : n < 10) : (dgT n).size = 1 := by
  rw [dgT, bsize, Lib.decDigits_one (by omega)]
  rfl
def seatT (r c : Int) : ByteArray := ⟨(seatTextL r c).toArray⟩
theorem seatT_size {r c : Int} (h : seatB r c = true) : (seatT r c).size ≤ 3 := by
  obtain ⟨⟨r1, r2⟩, c1, c2⟩ := seatB_parts h
  rw [seatT, bsize, seatTextL, if_pos h]
  have : (Lib.decDigits r.toNat).length ≤ 2 := by
    by_cases h : r.toNat < 10
    · rw [Lib.decDigits_one h]; simp
    · rw [Lib.decDigits_two h (by omega)]; simp
  simp
  omega
abbrev dotA : ByteArray := ⟨#[46]⟩
abbrev spA : ByteArray := ⟨#[32]⟩
theorem add_str (a b : ByteArray) (h : a.size + b.size ≤ 1000) : ∀ W : World, (Op.stringOp .add a b).run Tryz.prog W = .ok (.string (a ++ b)) W := fun W => run_string_add_sum _ _ _ (by omega)
theorem dec_any (n : Int) (h0 : 0 ≤ n) (h1 : n < 10) (W : World) : Calls Tryz.prog 79 #[.int .i64 n] W fun e w' => e = .returned (.string (dgT n)) ∧ Below W.heap.size W w' := by
  obtain ⟨m, rfl⟩ := nat_of h0
  exact l01Dec_nat m W (by omega)
theorem l02T_any (r c : Int) (h : seatB r c = true) (W : World) : Calls Tryz.prog 80 #[seatV r c] W fun e w' => e = .returned (.string (seatT r c)) ∧ Below W.heap.size W w' := by
  obtain ⟨⟨r1, r2⟩, c1, c2⟩ := seatB_parts h
  have hS : seatT r c = ⟨(Lib.decDigits r.toNat ++ [UInt8.ofNat (97 + c.toNat)]).toArray⟩ := by rw [seatT, seatTextL, if_pos h]
  rw [hS]
  obtain ⟨r, rfl⟩ := nat_of (show 0 ≤ r by omega)
  obtain ⟨c, rfl⟩ := nat_of c1
  exact l02Text_any r c W (by omega) (by omega)
set_option maxHeartbeats 400000 in
theorem digits_any (n : Int) (h0 : 0 ≤ n) (h1 : n < 10) (w : World) : Calls Tryz.prog 49 #[.int .i64 n] w fun e w' => e = .returned (.string (dgT n)) ∧ w = w' := by
  obtain ⟨m, rfl⟩ := nat_of h0
  have HF : Hid (∀ W : World, Calls Tryz.prog 100 #[.int .i64 m, .int .i64 10] W fun e w' => e = .returned (.string (dgT (m : Int))) ∧ W = w') := fun W => formatSmall m (by omega) W
  generalize dgT (m : Int) = D at *
  go_enter Tryz.func49, Tryz.ntmps49
  go_wp2_with fail
  refine (HF.out _).mono ?_
  rintro e w' ⟨rfl, rfl⟩
  go_wp2_with fail
  go_ret
  exact ⟨rfl, rfl⟩
theorem ba_ext {a b : ByteArray} (h : a.data.toList = b.data.toList) : a = b := ByteArray.ext (Array.toList_inj.1 h)
theorem ba_app (a b : ByteArray) : (a ++ b).data.toList = a.data.toList ++ b.data.toList := by simp
/-- The house that made a booking, and its number there. -/
def placeT (h l : Int) : ByteArray := (dgT h ++ dotA) ++ dgT l
theorem placeT_data (h l : Int) : placeT h l = ⟨((dgT h).data.toList ++ (dotA.data.toList ++ (dgT l).data.toList)).toArray⟩ := by
  apply ba_ext
  rw [placeT, ba_app, ba_app]
  simp
theorem placeT_size {h l : Int} (h0 : 0 ≤ h) (h1 : h < 10) (l0 : 0 ≤ l) (l1 : l < 10) : (placeT h l).size = 3 := by
  simp [placeT, ByteArray.size_append, dgT_size h0 h1, dgT_size l0 l1]
  rfl
set_option maxHeartbeats 400000 in
theorem placeText_any (h l : Int) (h0 : 0 ≤ h) (h1 : h < 10) (l0 : 0 ≤ l) (l1 : l < 10) (w : World) : Calls Tryz.prog 64 #[.int .i64 h, .int .i64 l] w fun e w' => e = .returned (.string (placeT h l)) ∧ Below w.heap.size w w' := by
  have HDh : Hid (∀ W : World, Calls Tryz.prog 49 #[.int .i64 h] W fun e w' => e = .returned (.string (dgT h)) ∧ W = w') := fun W => digits_any h h0 h1 W
  have HDl : Hid (∀ W : World, Calls Tryz.prog 49 #[.int .i64 l] W fun e w' => e = .returned (.string (dgT l)) ∧ W = w') := fun W => digits_any l l0 l1 W
  have s1 := dgT_size h0 h1
  have s2 := dgT_size l0 l1
  have HJ : Hid (∀ W : World, Calls Tryz.prog 68 #[.slice (some ⟨W.heap.size, 0, none⟩) 3 3] (W.alloc (.cells #[.string (dgT h), .string dotA, .string (dgT l)] 9)) fun e w' => e = .returned (.string (placeT h l)) ∧ Below W.heap.size W w') := fun W => by
    rw [placeT_data]
    exact joined_three (dgT h) dotA (dgT l) W 9 (by rw [s1, s2]; decide)
  clear s1 s2
  generalize placeT h l = R at *
  generalize dgT h = gh at *
  generalize dgT l = gl at *
  go_enter Tryz.func64, Tryz.ntmps64
  go_wp2_with (first | (go_at_call 49; (first | (with_reducible refine (HDh.out _).mono ?_) | (with_reducible refine (HDl.out _).mono ?_)); rintro e w' ⟨rfl, rfl⟩))
  refine (HJ.out _).mono ?_
  rintro e w' ⟨rfl, hb⟩
  go_wp2_with fail
  go_ret
  exact ⟨rfl, hb⟩
end Go.Proofs.YtpncnkihfijmaaaGreatDoor
namespace Go.Proofs.YtpncnkihfijmaaaGreatDoor
open Go.ChangeShapes Go.WideShapes Go.ChangeAt Go.RowKit Go.ChangeMaps
set_option maxRecDepth 10000
set_option linter.unusedSimpArgs false
set_option linter.unusedVariables false

abbrev ofA : ByteArray := ⟨#[32, 111, 102, 32]⟩
abbrev liveA : ByteArray := ⟨#[32, 108, 105, 118, 101]⟩
abbrev goneA : ByteArray := ⟨#[32, 103, 111, 110, 101]⟩
abbrev toA : ByteArray := ⟨#[32, 116, 111, 32]⟩
abbrev plusA : ByteArray := ⟨#[32, 43]⟩
abbrev colA : ByteArray := ⟨#[58]⟩
def headT (h l o : Int) : ByteArray := (((dgT h ++ dotA) ++ dgT l) ++ ofA) ++ dgT o
def liveT (b : Bool) (t : ByteArray) : ByteArray := if b then t ++ liveA else t ++ goneA
def offT (f : Int) (t : ByteArray) : ByteArray := if f = 0 then t else (t ++ toA) ++ dgT f
def nameT (t s : ByteArray) : ByteArray := (t ++ plusA) ++ s
def holdT (t : ByteArray) (x : HD) : ByteArray := (((t ++ spA) ++ x.f) ++ colA) ++ seatT x.r x.c
def textT (p : PD) : ByteArray := if rightB p = true then p.holds.foldl holdT (p.names.foldl nameT (offT p.offer (liveT p.live (headT p.home p.loc p.owner)))) else ⟨#[]⟩

theorem right_parts {p : PD} (h : rightB p = true) : ((1 ≤ p.home ∧ p.home ≤ 4) ∧ (1 ≤ p.owner ∧ p.owner ≤ 4) ∧ (1 ≤ p.loc ∧ p.loc ≤ 9)) ∧ (p.names.length ≤ 4 ∧ ∀ s ∈ p.names, wordB s = true) ∧ (p.holds.length ≤ 4 ∧ ∀ x ∈ p.holds, wordB x.f = true ∧ seatB x.r x.c = true) ∧ (0 ≤ p.offer ∧ p.offer ≤ 4) := by
  simp only [rightB, Bool.and_eq_true, houseB, decide_eq_true_eq, inB, namesOkB, holdsOkB, offerB, Bool.or_eq_true] at h
  obtain ⟨⟨h1, h2, h3, h4⟩, ⟨⟨h5, h6⟩, h7, h8⟩, h9, -⟩ := h
  refine ⟨⟨h1, h2, h3, h4⟩, ⟨h5, fun s hs => List.all_eq_true.1 h6 s hs⟩, ⟨h7, fun x hx => ?_⟩, ?_⟩
  · obtain ⟨i, hi, rfl⟩ := List.getElem_of_mem hx
    have := List.all_eq_true.1 h8 i (List.mem_range.2 hi)
    rw [okAt, hAt_of (List.getElem?_eq_getElem hi)] at this
    simp only [Bool.and_eq_true] at this
    exact ⟨this.1, this.2.1⟩
  · rcases h9 with h9 | h9
    · omega
    · omega


theorem headT_size {h l o : Int} (h1 : 1 ≤ h ∧ h ≤ 4) (h2 : 1 ≤ o ∧ o ≤ 4) (h3 : 1 ≤ l ∧ l ≤ 9) : (headT h l o).size = 8 := by
  simp [headT, ByteArray.size_append, dgT_size (n := h) (by omega) (by omega), dgT_size (n := l) (by omega) (by omega), dgT_size (n := o) (by omega) (by omega)]
  rfl
theorem liveT_size (b : Bool) (t : ByteArray) : (liveT b t).size = t.size + 5 := by
  cases b <;> simp [liveT, ByteArray.size_append] <;> rfl
theorem offT_size {f : Int} (h : 0 ≤ f ∧ f ≤ 4) (t : ByteArray) : (offT f t).size ≤ t.size + 5 := by
  unfold offT
  split
  · omega
  · simp [ByteArray.size_append, dgT_size (n := f) (by omega) (by omega)]
    exact Nat.le_refl 4
theorem namesT_size : ∀ (l : List ByteArray) (t : ByteArray), (∀ s ∈ l, wordB s = true) → (l.foldl nameT t).size ≤ t.size + 10 * l.length
  | [], t, _ => by simp
  | s :: l, t, h => by
    have h1 := namesT_size l (nameT t s) (fun x hx => h x (List.mem_cons_of_mem _ hx))
    have h2 := wordB_le (h s List.mem_cons_self)
    have h3 : (nameT t s).size = t.size + 2 + s.size := by simp [nameT, ByteArray.size_append]; rfl
    simp only [List.foldl_cons, List.length_cons]
    omega
theorem foldl_take_succ {α β : Type} (f : β → α → β) (b : β) {l : List α} {k : Nat} {x : α} (h : l[k]? = some x) : (l.take (k + 1)).foldl f b = f ((l.take k).foldl f b) x := by
  rw [List.take_add_one, h]
  simp
theorem holdsT_size : ∀ (l : List HD) (t : ByteArray), (∀ x ∈ l, wordB x.f = true ∧ seatB x.r x.c = true) → (l.foldl holdT t).size ≤ t.size + 13 * l.length
  | [], t, _ => by simp
  | s :: l, t, h => by
    have h1 := holdsT_size l (holdT t s) (fun x hx => h x (List.mem_cons_of_mem _ hx))
    have h2 := wordB_le (h s List.mem_cons_self).1
    have h4 := seatT_size (h s List.mem_cons_self).2
    have h3 : (holdT t s).size = t.size + 1 + s.f.size + 1 + (seatT s.r s.c).size := by simp [holdT, ByteArray.size_append]; rfl
    simp only [List.foldl_cons, List.length_cons]
    omega
end Go.Proofs.YtpncnkihfijmaaaGreatDoor
