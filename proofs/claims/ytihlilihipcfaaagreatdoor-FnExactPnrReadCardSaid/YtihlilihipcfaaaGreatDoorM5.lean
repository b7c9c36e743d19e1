/-
  l01Dec: a number in digits. SeatText: both functions write out a seat. spec.SeatText writes out a seat. The text of a booking, as both functions write it. spec.PnrRight: the walk.
-/
import Derived.Test.YtihlilihipcfaaaGreatDoorM4
import Derived.Test.YtihlilihipcfaaaGreatDoorM1
import Derived.Deep.RegionHeld3
import Derived.Deep.RegionWith
import Derived.Test.YtihlilihipcfaaaGreatDoorM3
import Derived.Test.YtihlilihipcfaaaGreatDoorM2
namespace Go.Proofs.YtihlilihipcfaaaGreatDoor
open Go.ChangeShapes Go.WideShapes Go.ChangeAt Go.RowKit Go.ChangeMaps
set_option maxRecDepth 10000
set_option linter.unusedSimpArgs false
set_option linter.unusedVariables false

set_option maxHeartbeats 1000000 in
theorem l01Dec_nat (n : Nat) (w : World) (hn : n ≤ 9223372036854775807) : Calls Tryz.prog 80 #[.int .i64 n] w fun e w' => e = .returned (.string ⟨(Lib.decDigits n).toArray⟩) ∧ Below w.heap.size w w' := by
  by_cases h0 : n = 0
  · subst h0
    go_enter Tryz.func80, Tryz.ntmps80
    go_wp2
    go_ret
    refine ⟨?_, Below.refl _ _⟩
    rw [Lib.decDigits, dif_pos (by omega)]
    rfl
  have hb0 : ((n : Int) == 0) = false := by rw [beq_eq_false_iff_ne]; omega
  have hD : decU n ++ [] = Lib.decDigits n := by rw [decU, if_neg h0, List.append_nil]
  generalize Lib.decDigits n = R at *
  have HD := Lib.hid hD
  clear hD
  go_enter Tryz.func80, Tryz.ntmps80
  go_wp2
  go_loopw [0, 4] (fun x v wr => ∃ (u : Nat) (l : List UInt8), x = .int .i64 (u : Int) ∧ u ≤ n ∧ v = .string ⟨l.toArray⟩ ∧ Hid (decU u ++ l = R) ∧ l.length + u ≤ n ∧ Below w.heap.size w wr) (fun x _ _ => (intOf x).toNat)
  case atStart => exact ⟨n, [], rfl, Nat.le_refl _, rfl, HD, by simp, Below.refl _ _⟩
  case round =>
    obtain ⟨u, l, rfl, hu, rfl, hl, hln, hB⟩ := hrel
    by_cases hu0 : u = 0
    · subst hu0
      go_wp2
      go_ret
      refine ⟨?_, hB⟩
      rw [← hl.out]
      rfl
    · have hne : ((u : Int) != 0) = true := by rw [bne_iff_ne]; omega
      have hs := Lib.hid (decU_step (u := u) (by omega) l)
      have hb : ((UInt8.ofNat (48 + u % 10)).toNat : Int) = 48 + (u : Int) % 10 := by rw [ofNat_toNat (by omega)]; omega
      generalize UInt8.ofNat (48 + u % 10) = b at *
      have HB := Lib.hid hb
      have ha := Lib.hid (bappend [b] ⟨l.toArray⟩)
      clear hb
      go_wp2_with (refine wpList_str_one Tryz.underlying31 Tryz.underlying5 Tryz.underlying9 b ?_ rfl ?_; rotate_left)
      · go_roundw
        case rel => exact ⟨u / 10, _, by go_num, by omega, congrArg Value.string ha.out, by rw [← hl.out, hs.out]; rfl, by simp; omega, hB.alloc hB.size _⟩
        case measure => simp [intOf]; omega
      · exact HB.out.symm
end Go.Proofs.YtihlilihipcfaaaGreatDoor
namespace Go.Proofs.YtihlilihipcfaaaGreatDoor
open Go.ChangeShapes Go.WideShapes Go.ChangeAt Go.RowKit Go.ChangeMaps
set_option maxRecDepth 10000
set_option linter.unusedSimpArgs false
set_option linter.unusedVariables false

/-- What SeatText answers. -/
def seatTextL (r c : Int) : List UInt8 := if seatB r c = true then Lib.decDigits r.toNat ++ [UInt8.ofNat (97 + c.toNat)] else []
theorem seatB_parts {r c : Int} (h : seatB r c = true) : (1 ≤ r ∧ r ≤ 20) ∧ 0 ≤ c ∧ c ≤ 5 := by
  simp [seatB] at h
  exact ⟨⟨h.1, h.2.1⟩, h.2.2.1, h.2.2.2⟩

theorem formatSmall (n : Nat) (hn : n < 100) (w : World) : Calls Tryz.prog 97 #[.int .i64 n, .int .i64 10] w fun e w' => e = .returned (.string ⟨(Lib.decDigits n).toArray⟩) ∧ w = w' :=
  (Tryz.strconv_FormatInt_10_small n hn w).mono fun e w' h => ⟨h.1, h.2.symm⟩

set_option maxHeartbeats 1000000 in
theorem iSeatText_any (r c : Int) (w : World) : Calls Tryz.prog 71 #[seatV r c] w fun e w' => e = .returned (.string ⟨(seatTextL r c).toArray⟩) ∧ Below w.heap.size w w' := by
  have HS : Hid (∀ W : World, Calls Tryz.prog 111 #[seatV r c] W fun e w' => e = .returned (.bool (seatB r c)) ∧ Below W.heap.size W w') := fun W => iSeatRight_any r c W
  obtain ⟨b, hb⟩ : ∃ b, seatB r c = b := ⟨_, rfl⟩
  have HB := Lib.hid hb
  rw [hb] at HS
  cases b
  · clear hb
    go_enter Tryz.func71, Tryz.ntmps71
    go_wp2_with fail
    refine (HS.out _).mono ?_
    rintro e w1 ⟨rfl, hb1⟩
    go_wp2_with fail
    go_ret
    exact ⟨by rw [seatTextL, if_neg (by rw [HB.out]; simp)]; rfl, ((Below.refl _ _).alloc (Nat.le_refl _) _).trans (hb1.mono (by simp))⟩
  · obtain ⟨⟨r1, r2⟩, c1, c2⟩ := seatB_parts hb
    clear hb
    obtain ⟨r, rfl⟩ := nat_of (show 0 ≤ r by omega)
    obtain ⟨c, rfl⟩ := nat_of c1
    have HF : Hid (∀ W : World, Calls Tryz.prog 97 #[.int .i64 r, .int .i64 10] W fun e w' => e = .returned (.string ⟨(Lib.decDigits r).toArray⟩) ∧ W = w') := fun W => formatSmall r (by omega) W
    have HR : Hid (seatTextL (r : Int) (c : Int) = Lib.decDigits r ++ [UInt8.ofNat (97 + c)]) := by rw [Hid, seatTextL, if_pos HB.out]; rfl
    have hDl : (Lib.decDigits r).length ≤ 2 := by
      by_cases h : r < 10
      · rw [Lib.decDigits_one h]; simp
      · rw [Lib.decDigits_two h (by omega)]; simp
    generalize Lib.decDigits r = D at *
    have hlt : ((UInt8.ofNat (97 + c)).toNat : Int) = 97 + (c : Int) := by rw [ofNat_toNat (by omega)]; omega
    generalize UInt8.ofNat (97 + c) = b at *
    have HL := Lib.hid hlt
    clear hlt
    go_enter Tryz.func71, Tryz.ntmps71
    go_wp2_with fail
    refine (HS.out _).mono ?_
    rintro e w1 ⟨rfl, hb1⟩
    have hz : w.heap.size < w1.heap.size := by have := hb1.size; simp at this; omega
    have c00 := kc hb1 (b := w.heap.size) (i := 0) (v := .int .i64 r) (by go_simp) (by simp)
    have c01 := kc hb1 (b := w.heap.size) (i := 1) (v := .int .i64 c) (by go_simp) (by simp)
    have hB : Below w.heap.size w w1 := ((Below.refl _ _).alloc (Nat.le_refl _) _).trans (hb1.mono (by simp))
    have hBd := hB.drew
    clear hb1
    have hcv := run_str_one (P := Tryz.prog) w1 (e' := 5) Tryz.underlying31 Tryz.underlying5 Tryz.underlying9 b HL.out.symm
    go_wp2_with fail
    go_region_with (go_at_call 97; refine (HF.out _).mono ?_; rintro e w' ⟨rfl, rfl⟩)
    all_goals
      have ha := Lib.hid (bappend D ⟨[b].toArray⟩)
      clear hcv hBd c00 c01
      go_wp2
      go_ret
      refine ⟨?_, (hB.alloc (by omega) _).drew⟩
      rw [HR.out]
      exact congrArg (fun z => Ending.returned (.string z)) ha.out
end Go.Proofs.YtihlilihipcfaaaGreatDoor
namespace Go.Proofs.YtihlilihipcfaaaGreatDoor
open Go.ChangeShapes Go.WideShapes Go.ChangeAt Go.RowKit Go.ChangeMaps
set_option maxRecDepth 10000
set_option linter.unusedSimpArgs false
set_option linter.unusedVariables false

theorem letters_at (c : Nat) (hc : c ≤ 5) : ByteArray.extract ⟨#[97, 98, 99, 100, 101, 102]⟩ c (c + 1) = ⟨[UInt8.ofNat (97 + c)].toArray⟩ := by
  have h : c = 0 ∨ c = 1 ∨ c = 2 ∨ c = 3 ∨ c = 4 ∨ c = 5 := by omega
  rcases h with rfl | rfl | rfl | rfl | rfl | rfl <;> decide +kernel

set_option maxHeartbeats 1000000 in
theorem l02Text_any (r c : Nat) (w : World) (hr : r ≤ 20) (hc : c ≤ 5) : Calls Tryz.prog 81 #[seatV r c] w fun e w' => e = .returned (.string ⟨(Lib.decDigits r ++ [UInt8.ofNat (97 + c)]).toArray⟩) ∧ Below w.heap.size w w' := by
  have HF : Hid (∀ W : World, Calls Tryz.prog 80 #[.int .i64 r] W fun e w' => e = .returned (.string ⟨(Lib.decDigits r).toArray⟩) ∧ Below W.heap.size W w') := fun W => l01Dec_nat r W (by omega)
  have hDl : (Lib.decDigits r).length ≤ 2 := by
    by_cases h : r < 10
    · rw [Lib.decDigits_one h]; simp
    · rw [Lib.decDigits_two h (by omega)]; simp
  generalize Lib.decDigits r = D at *
  have hcI0 : (0 : Int) ≤ c := by omega
  have hcI : (c : Int) ≤ 5 := by omega
  have hwr : IntKind.i64.wrap ((c : Int) + 1) = (c : Int) + 1 := IntWalk.i64_in _ (by omega)
  have hB0 : Below w.heap.size w (w.alloc (.cells #[.int .i64 r, .int .i64 c] 23)).drew := ((Below.refl _ _).alloc (Nat.le_refl _) _).drew
  have hsl : ∀ W : World, (Instr.slice 9 (.string ⟨#[97, 98, 99, 100, 101, 102]⟩) (some (.int .i64 (c : Int))) (some (.int .i64 ((c : Int) + 1))) none).run Tryz.prog W = .ok (.string ⟨[UInt8.ofNat (97 + c)].toArray⟩) W := fun W => by
    have h := run_slice_string (P := Tryz.prog) W 9 ⟨#[97, 98, 99, 100, 101, 102]⟩ .i64 .i64 (c : Int) ((c : Int) + 1) Tryz.underlying9 (by omega) (by omega) (by show _ ≤ ((6 : Nat) : Int); omega)
    rw [← letters_at c hc]
    exact h
  generalize UInt8.ofNat (97 + c) = b at *
  have hlen : (ByteArray.mk D.toArray).size + (ByteArray.mk [b].toArray).size ≤ 9223372036854775807 := by rw [bsize, bsize]; simp; omega
  have hadd : ∀ W : World, (Op.stringOp .add ⟨D.toArray⟩ ⟨[b].toArray⟩).run Tryz.prog W = .ok (.string ⟨(D ++ [b]).toArray⟩) W := fun W => by
    rw [run_string_add_sum _ _ _ hlen, bappend]
  go_enter Tryz.func81, Tryz.ntmps81
  go_wp2_with fail
  go_region_held3 (fun W => W.cell? ⟨w.heap.size, 0, none⟩ = some (.int .i64 r) ∧ W.cell? ⟨w.heap.size, 1, none⟩ = some (.int .i64 c) ∧ Below w.heap.size w W ∧ w.heap.size + 1 ≤ W.heap.size)
    (first | (go_keep; done) | (go_split_ands; exact ⟨kc hb (by assumption) (by omega), kc hb (by assumption) (by omega), bstep hb (by assumption) (by omega), zstep hb (by assumption)⟩))
    (first | (go_at_call 80; refine (HF.out _).mono ?_; rintro e w' ⟨rfl, hb⟩))
  rename_i hHeld
  obtain ⟨-, -, hB, -⟩ := hHeld
  go_wp2_with fail
  go_ret
  exact ⟨rfl, hB⟩
end Go.Proofs.YtihlilihipcfaaaGreatDoor
namespace Go.Proofs.YtihlilihipcfaaaGreatDoor
open Go.ChangeShapes Go.WideShapes Go.ChangeAt Go.RowKit Go.ChangeMaps
set_option maxRecDepth 10000
set_option linter.unusedSimpArgs false
set_option linter.unusedVariables false

def dgT (n : Int) : ByteArray := ⟨(Lib.decDigits n.toNat).toArray⟩
theorem dgT_size {n : Int} (h0 : 0 ≤ n) (h1 : n < 10) : (dgT n).size = 1 := by
  rw [dgT, bsize, Lib.decDigits_one (by omega)]
  rfl
def seatT (r c : Int) : ByteArray := ⟨(seatTextL r c).toArray⟩
theorem seatT_size {r c : Int} (h : seatB r c = true) : (seatT r c).size ≤ 3 := by
  obtain ⟨⟨r1, r2⟩, c1, c2⟩ := seatB_parts h
  rw [seatT, bsize, seatTextL, if_pos h]
  have : (Lib.decDigits r.toNat).length ≤ 2 := by
    by_cases h : r.toNat < 10
    · rw [Lib.decDigits_one h]; simp
    · rw [Lib.decDigits_two h (by omega)]; simp
  simp
  omega
abbrev dotA : ByteArray := ⟨#[46]⟩
abbrev ofA : ByteArray := ⟨#[32, 111, 102, 32]⟩
abbrev liveA : ByteArray := ⟨#[32, 108, 105, 118, 101]⟩
abbrev goneA : ByteArray := ⟨#[32, 103, 111, 110, 101]⟩
abbrev toA : ByteArray := ⟨#[32, 116, 111, 32]⟩
abbrev plusA : ByteArray := ⟨#[32, 43]⟩
abbrev spA : ByteArray := ⟨#[32]⟩
abbrev colA : ByteArray := ⟨#[58]⟩
def headT (h l o : Int) : ByteArray := (((dgT h ++ dotA) ++ dgT l) ++ ofA) ++ dgT o
def liveT (b : Bool) (t : ByteArray) : ByteArray := if b then t ++ liveA else t ++ goneA
def offT (f : Int) (t : ByteArray) : ByteArray := if f = 0 then t else (t ++ toA) ++ dgT f
def nameT (t s : ByteArray) : ByteArray := (t ++ plusA) ++ s
def holdT (t : ByteArray) (x : HD) : ByteArray := (((t ++ spA) ++ x.f) ++ colA) ++ seatT x.r x.c
def textT (p : PD) : ByteArray := if rightB p = true then p.holds.foldl holdT (p.names.foldl nameT (offT p.offer (liveT p.live (headT p.home p.loc p.owner)))) else ⟨#[]⟩

theorem right_parts {p : PD} (h : rightB p = true) : ((1 ≤ p.home ∧ p.home ≤ 4) ∧ (1 ≤ p.owner ∧ p.owner ≤ 4) ∧ (1 ≤ p.loc ∧ p.loc ≤ 9)) ∧ (p.names.length ≤ 4 ∧ ∀ s ∈ p.names, wordB s = true) ∧ (p.holds.length ≤ 4 ∧ ∀ x ∈ p.holds, wordB x.f = true ∧ seatB x.r x.c = true) ∧ (0 ≤ p.offer ∧ p.offer ≤ 4) := by
  simp only [rightB, Bool.and_eq_true, houseB, decide_eq_true_eq, inB, namesOkB, holdsOkB, offerB, Bool.or_eq_true] at h
  obtain ⟨⟨h1, h2, h3, h4⟩, ⟨⟨h5, h6⟩, h7, h8⟩, h9, -⟩ := h
  refine ⟨⟨h1, h2, h3, h4⟩, ⟨h5, fun s hs => List.all_eq_true.1 h6 s hs⟩, ⟨h7, fun x hx => ?_⟩, ?_⟩
  · obtain ⟨i, hi, rfl⟩ := List.getElem_of_mem hx
    have := List.all_eq_true.1 h8 i (List.mem_range.2 hi)
    rw [okAt, hAt_of (List.getElem?_eq_getElem hi)] at this
    simp only [Bool.and_eq_true] at this
    exact ⟨this.1, this.2.1⟩
  · rcases h9 with h9 | h9
    · omega
    · omega

theorem wordB_le {s : ByteArray} (h : wordB s = true) : s.size ≤ 8 := (of_decide_eq_true h).2.1

theorem headT_size {h l o : Int} (h1 : 1 ≤ h ∧ h ≤ 4) (h2 : 1 ≤ o ∧ o ≤ 4) (h3 : 1 ≤ l ∧ l ≤ 9) : (headT h l o).size = 8 := by
  simp [headT, ByteArray.size_append, dgT_size (n := h) (by omega) (by omega), dgT_size (n := l) (by omega) (by omega), dgT_size (n := o) (by omega) (by omega)]
  rfl
theorem liveT_size (b : Bool) (t : ByteArray) : (liveT b t).size = t.size + 5 := by
  cases b <;> simp [liveT, ByteArray.size_append] <;> rfl
theorem offT_size {f : Int} (h : 0 ≤ f ∧ f ≤ 4) (t : ByteArray) : (offT f t).size ≤ t.size + 5 := by
  unfold offT
  split
  · omega
  · simp [ByteArray.size_append, dgT_size (n := f) (by omega) (by omega)]
    exact Nat.le_refl 4
theorem namesT_size : ∀ (l : List ByteArray) (t : ByteArray), (∀ s ∈ l, wordB s = true) → (l.foldl nameT t).size ≤ t.size + 10 * l.length
  | [], t, _ => by simp
  | s :: l, t, h => by
    have h1 := namesT_size l (nameT t s) (fun x hx => h x (List.mem_cons_of_mem _ hx))
    have h2 := wordB_le (h s List.mem_cons_self)
    have h3 : (nameT t s).size = t.size + 2 + s.size := by simp [nameT, ByteArray.size_append]; rfl
    simp only [List.foldl_cons, List.length_cons]
    omega
theorem foldl_take_succ {α β : Type} (f : β → α → β) (b : β) {l : List α} {k : Nat} {x : α} (h : l[k]? = some x) : (l.take (k + 1)).foldl f b = f ((l.take k).foldl f b) x := by
  rw [List.take_add_one, h]
  simp
theorem holdsT_size : ∀ (l : List HD) (t : ByteArray), (∀ x ∈ l, wordB x.f = true ∧ seatB x.r x.c = true) → (l.foldl holdT t).size ≤ t.size + 13 * l.length
  | [], t, _ => by simp
  | s :: l, t, h => by
    have h1 := holdsT_size l (holdT t s) (fun x hx => h x (List.mem_cons_of_mem _ hx))
    have h2 := wordB_le (h s List.mem_cons_self).1
    have h4 := seatT_size (h s List.mem_cons_self).2
    have h3 : (holdT t s).size = t.size + 1 + s.f.size + 1 + (seatT s.r s.c).size := by simp [holdT, ByteArray.size_append]; rfl
    simp only [List.foldl_cons, List.length_cons]
    omega
end Go.Proofs.YtihlilihipcfaaaGreatDoor
namespace Go.Proofs.YtihlilihipcfaaaGreatDoor
open Go.ChangeShapes Go.WideShapes Go.ChangeAt Go.RowKit Go.ChangeMaps
set_option maxRecDepth 10000
set_option linter.unusedSimpArgs false
set_option linter.unusedVariables false

set_option maxHeartbeats 4000000 in
theorem sPnrRight_any (p : PD) (A1 : Option Addr) (c1 : Nat) (A2 : Option Addr) (c2 : Nat) (w : World) (hl : PLies w w.heap.size p A1 A2) (hf : PFit p) (hn : p.names.length ≤ 1099511627) (hh : p.holds.length ≤ 1099511627) :
    Calls Tryz.prog 33 #[pdV p A1 c1 A2 c2] w fun e w' => e = .returned (.bool (rightB p)) ∧ Below w.heap.size w w' := by
  obtain ⟨h, l, o, ns, hs, b, f⟩ := p
  obtain ⟨hl1, hl2⟩ := hl
  obtain ⟨-, fn1, -, fh1⟩ := hf
  dsimp only [pdV] at *
  have HG : Hid (∀ k : Nat, k ≤ ns.length → ∀ W : World, Below w.heap.size w W → k < ns.length → ∃ b off s, A1 = some ⟨b, off, none⟩ ∧ ns[k]? = some s ∧ s.size ≤ maxLen ∧ W.cell? ⟨b, off + k, none⟩ = some (.string s)) := fun k hk W hW hlt => by
    obtain ⟨b, off, s, e, hlb, hx, c0⟩ := (hl1.below hW).str hlt
    exact ⟨b, off, s, e, hx, fn1 s (List.mem_of_getElem? hx), c0⟩
  have HO : Hid (∀ W : World, Below w.heap.size w W → Calls Tryz.prog 88 #[.slice A2 hs.length c2] W fun e w' => e = .returned (.bool (holdsOkB hs)) ∧ Below W.heap.size W w') := fun W hW => l03Holds_any hs A2 c2 W (hl2.on hW) hh fh1
  have HD : Hid (rightB ⟨h, l, o, ns, hs, b, f⟩ = ((houseB h && (houseB o && inB l 1 9)) && ((namesOkB ns && holdsOkB hs) && (offerB f o && lastB b hs.length f)))) := rfl
  have HNN : Hid (namesOkB ns = (decide (ns.length ≤ 4) && ns.all wordB)) := rfl
  clear hl1 hl2 fn1 fh1
  generalize rightB ⟨h, l, o, ns, hs, b, f⟩ = R at *
  generalize holdsOkB hs = xh at *
  cases k1 : houseB h
  · skip
    have HR : Hid (R = false) := by rw [Hid, HD.out]; rw [k1]; rfl
    clear HD HG HO HNN
    go_enter Tryz.func33, Tryz.ntmps33
    go_wp2_with (first | (go_at_call 58; refine (l03House_any _ _).mono ?_; rintro e w' ⟨rfl, rfl⟩) | (go_at_call 56; refine (l02Is_any _ _ _ _).mono ?_; rintro e w' ⟨rfl, rfl⟩))
    go_ret
    exact ⟨ret_bool HR.out.symm, by go_grown⟩
  cases k4 : houseB o
  · skip
    have HR : Hid (R = false) := by rw [Hid, HD.out]; rw [k1, k4]; rfl
    clear HD HG HO HNN
    go_enter Tryz.func33, Tryz.ntmps33
    go_wp2_with (first | (go_at_call 58; refine (l03House_any _ _).mono ?_; rintro e w' ⟨rfl, rfl⟩) | (go_at_call 56; refine (l02Is_any _ _ _ _).mono ?_; rintro e w' ⟨rfl, rfl⟩))
    go_ret
    exact ⟨ret_bool HR.out.symm, by go_grown⟩
  cases k3 : inB l 1 9
  · skip
    have HR : Hid (R = false) := by rw [Hid, HD.out]; rw [k1, k4, k3]; rfl
    clear HD HG HO HNN
    go_enter Tryz.func33, Tryz.ntmps33
    go_wp2_with (first | (go_at_call 58; refine (l03House_any _ _).mono ?_; rintro e w' ⟨rfl, rfl⟩) | (go_at_call 56; refine (l02Is_any _ _ _ _).mono ?_; rintro e w' ⟨rfl, rfl⟩))
    go_ret
    exact ⟨ret_bool HR.out.symm, by go_grown⟩
  by_cases k2 : 4 < ns.length
  · have k2' : (4 : Int) < (ns.length : Int) := by omega
    have HR : Hid (R = false) := by rw [Hid, HD.out]; rw [HNN.out, decide_eq_false (show ¬ ns.length ≤ 4 by omega)]; simp
    clear HD HG HO HNN
    go_enter Tryz.func33, Tryz.ntmps33
    go_wp2_with (first | (go_at_call 58; refine (l03House_any _ _).mono ?_; rintro e w' ⟨rfl, rfl⟩) | (go_at_call 56; refine (l02Is_any _ _ _ _).mono ?_; rintro e w' ⟨rfl, rfl⟩))
    go_ret
    exact ⟨ret_bool HR.out.symm, by go_grown⟩
  rw [k1, k4, k3] at HD
  have k2' : ¬ (4 : Int) < (ns.length : Int) := by omega
  have HD2 : Hid (R = ((ns.all wordB && xh) && (offerB f o && lastB b hs.length f))) := by rw [Hid, HD.out, HNN.out, decide_eq_true (show ns.length ≤ 4 by omega)]; rfl
  clear HD HNN k2
  cases xh
  · have HR : Hid (R = false) := by rw [Hid, HD2.out]; simp
    clear HD2 HG
    go_enter Tryz.func33, Tryz.ntmps33
    go_wp2_with (first | (go_at_call 58; refine (l03House_any _ _).mono ?_; rintro e w' ⟨rfl, rfl⟩) | (go_at_call 56; refine (l02Is_any _ _ _ _).mono ?_; rintro e w' ⟨rfl, rfl⟩))
    refine (HO.out _ (by go_grown)).mono ?_
    rintro e w1 ⟨rfl, hb1⟩
    have hB := boxed hb1
    have bl : Block w1 w.heap.size 40 #[.int .i64 h, .int .i64 l, .int .i64 o, .slice A1 ns.length c1, .slice A2 hs.length c2, .bool b, .int .i64 f] := (Block.new w _ _).on hb1
    have q3 := bl.cell 3
    have q4 := bl.cell 4
    have q5 := bl.cell 5
    have q6 := bl.cell 6
    have q2 := bl.cell 2
    clear bl hb1
    go_wp2_with fail
    go_ret
    exact ⟨ret_bool HR.out.symm, hB⟩
  by_cases k5 : f = 0
  · subst k5
    cases b
    · by_cases k6 : hs.length = 0
      · have k7 : (hs.length : Int) = 0 := by omega
        have k8 : ((hs.length : Int) == 0) = true := by rw [k7]; rfl
        have K6 := Lib.hid k6
        clear k6
        replace k7 := Lib.hid k7
        have HR : Hid (R = (ns.all wordB && true)) := by rw [Hid, HD2.out]; simp [offerB, lastB, K6.out]
        clear HD2
        go_enter Tryz.func33, Tryz.ntmps33
        go_wp2_with (first | (go_at_call 58; refine (l03House_any _ _).mono ?_; rintro e w' ⟨rfl, rfl⟩) | (go_at_call 56; refine (l02Is_any _ _ _ _).mono ?_; rintro e w' ⟨rfl, rfl⟩))
        refine (HO.out _ (by go_grown)).mono ?_
        rintro e w1 ⟨rfl, hb1⟩
        have hB := boxed hb1
        have bl : Block w1 w.heap.size 40 #[.int .i64 h, .int .i64 l, .int .i64 o, .slice A1 ns.length c1, .slice A2 hs.length c2, .bool false, .int .i64 0] := (Block.new w _ _).on hb1
        have q3 := bl.cell 3
        have q4 := bl.cell 4
        have q5 := bl.cell 5
        have q6 := bl.cell 6
        have q2 := bl.cell 2
        clear bl hb1
        go_wp2_with (first | (go_at_call 58; refine (l03House_any _ _).mono ?_; rintro e w' ⟨rfl, rfl⟩) | (go_at_call 56; refine (l02Is_any _ _ _ _).mono ?_; rintro e w' ⟨rfl, rfl⟩))
        go_loop [3] (fun i => ∃ k : Nat, k ≤ ns.length ∧ i = .int .i64 k ∧ Hid ((ns.take k).all wordB = true)) (fun i => ns.length - (intOf i).toNat)
        case atStart => exact ⟨0, Nat.zero_le _, rfl, rfl⟩
        case round =>
          obtain ⟨k, hk, rfl, HA⟩ := hrel
          by_cases hlt : k < ns.length
          · obtain ⟨bb, off, s, rfl, hx, hs', c0⟩ := HG.out k hk w1 hB hlt
            have HW : Hid (∀ W : World, Calls Tryz.prog 59 #[.string s] W fun e w' => e = .returned (.bool (wordB s)) ∧ W = w') := fun W => sWord_any s W hs'
            cases hb : wordB s
            · rw [hb] at HW
              have HN := Lib.hid (names_no hx hb)
              clear hx hb HG
              go_wp2_with fail
              refine (HW.out _).mono ?_
              rintro e w1 ⟨rfl, rfl⟩
              go_wp2_with fail
              go_ret
              exact ⟨ret_bool (by rw [HR.out, HN.out]; rfl), hB⟩
            · rw [hb] at HW
              have HN := Lib.hid (all_take_succ HA.out hx hb)
              clear hx hb HG
              go_wp2_with fail
              refine (HW.out _).mono ?_
              rintro e w1 ⟨rfl, rfl⟩
              go_wp2_with fail
              go_round
              case rel => exact ⟨k + 1, by omega, by go_num, HN⟩
              case measure => simp [intOf]; omega
          · obtain rfl : k = ns.length := by omega
            have HE : Hid (ns.all wordB = true) := by have := HA.out; rwa [List.take_length] at this
            clear HG
            go_wp2
            go_ret
            exact ⟨ret_bool (by rw [HR.out, HE.out]; rfl), hB⟩
      · have k8 : ((hs.length : Int) == 0) = false := beq_eq_false_iff_ne.2 (by omega)
        have K6 := Lib.hid k6
        clear k6
        have HR : Hid (R = (ns.all wordB && false)) := by rw [Hid, HD2.out]; rw [lastB, decide_eq_false K6.out]; simp
        clear HD2
        go_enter Tryz.func33, Tryz.ntmps33
        go_wp2_with (first | (go_at_call 58; refine (l03House_any _ _).mono ?_; rintro e w' ⟨rfl, rfl⟩) | (go_at_call 56; refine (l02Is_any _ _ _ _).mono ?_; rintro e w' ⟨rfl, rfl⟩))
        refine (HO.out _ (by go_grown)).mono ?_
        rintro e w1 ⟨rfl, hb1⟩
        have hB := boxed hb1
        have bl : Block w1 w.heap.size 40 #[.int .i64 h, .int .i64 l, .int .i64 o, .slice A1 ns.length c1, .slice A2 hs.length c2, .bool false, .int .i64 0] := (Block.new w _ _).on hb1
        have q3 := bl.cell 3
        have q4 := bl.cell 4
        have q5 := bl.cell 5
        have q6 := bl.cell 6
        have q2 := bl.cell 2
        clear bl hb1
        go_wp2_with (first | (go_at_call 58; refine (l03House_any _ _).mono ?_; rintro e w' ⟨rfl, rfl⟩) | (go_at_call 56; refine (l02Is_any _ _ _ _).mono ?_; rintro e w' ⟨rfl, rfl⟩))
        go_loop [3] (fun i => ∃ k : Nat, k ≤ ns.length ∧ i = .int .i64 k ∧ Hid ((ns.take k).all wordB = true)) (fun i => ns.length - (intOf i).toNat)
        case atStart => exact ⟨0, Nat.zero_le _, rfl, rfl⟩
        case round =>
          obtain ⟨k, hk, rfl, HA⟩ := hrel
          by_cases hlt : k < ns.length
          · obtain ⟨bb, off, s, rfl, hx, hs', c0⟩ := HG.out k hk w1 hB hlt
            have HW : Hid (∀ W : World, Calls Tryz.prog 59 #[.string s] W fun e w' => e = .returned (.bool (wordB s)) ∧ W = w') := fun W => sWord_any s W hs'
            cases hb : wordB s
            · rw [hb] at HW
              have HN := Lib.hid (names_no hx hb)
              clear hx hb HG
              go_wp2_with fail
              refine (HW.out _).mono ?_
              rintro e w1 ⟨rfl, rfl⟩
              go_wp2_with fail
              go_ret
              exact ⟨ret_bool (by rw [HR.out, HN.out]; rfl), hB⟩
            · rw [hb] at HW
              have HN := Lib.hid (all_take_succ HA.out hx hb)
              clear hx hb HG
              go_wp2_with fail
              refine (HW.out _).mono ?_
              rintro e w1 ⟨rfl, rfl⟩
              go_wp2_with fail
              go_round
              case rel => exact ⟨k + 1, by omega, by go_num, HN⟩
              case measure => simp [intOf]; omega
          · obtain rfl : k = ns.length := by omega
            have HE : Hid (ns.all wordB = true) := by have := HA.out; rwa [List.take_length] at this
            clear HG
            go_wp2
            go_ret
            exact ⟨ret_bool (by rw [HR.out, HE.out]; rfl), hB⟩
    · skip
      have HR : Hid (R = (ns.all wordB && true)) := by rw [Hid, HD2.out]; simp [offerB, lastB]
      clear HD2
      go_enter Tryz.func33, Tryz.ntmps33
      go_wp2_with (first | (go_at_call 58; refine (l03House_any _ _).mono ?_; rintro e w' ⟨rfl, rfl⟩) | (go_at_call 56; refine (l02Is_any _ _ _ _).mono ?_; rintro e w' ⟨rfl, rfl⟩))
      refine (HO.out _ (by go_grown)).mono ?_
      rintro e w1 ⟨rfl, hb1⟩
      have hB := boxed hb1
      have bl : Block w1 w.heap.size 40 #[.int .i64 h, .int .i64 l, .int .i64 o, .slice A1 ns.length c1, .slice A2 hs.length c2, .bool true, .int .i64 0] := (Block.new w _ _).on hb1
      have q3 := bl.cell 3
      have q4 := bl.cell 4
      have q5 := bl.cell 5
      have q6 := bl.cell 6
      have q2 := bl.cell 2
      clear bl hb1
      go_wp2_with (first | (go_at_call 58; refine (l03House_any _ _).mono ?_; rintro e w' ⟨rfl, rfl⟩) | (go_at_call 56; refine (l02Is_any _ _ _ _).mono ?_; rintro e w' ⟨rfl, rfl⟩))
      go_loop [3] (fun i => ∃ k : Nat, k ≤ ns.length ∧ i = .int .i64 k ∧ Hid ((ns.take k).all wordB = true)) (fun i => ns.length - (intOf i).toNat)
      case atStart => exact ⟨0, Nat.zero_le _, rfl, rfl⟩
      case round =>
        obtain ⟨k, hk, rfl, HA⟩ := hrel
        by_cases hlt : k < ns.length
        · obtain ⟨bb, off, s, rfl, hx, hs', c0⟩ := HG.out k hk w1 hB hlt
          have HW : Hid (∀ W : World, Calls Tryz.prog 59 #[.string s] W fun e w' => e = .returned (.bool (wordB s)) ∧ W = w') := fun W => sWord_any s W hs'
          cases hb : wordB s
          · rw [hb] at HW
            have HN := Lib.hid (names_no hx hb)
            clear hx hb HG
            go_wp2_with fail
            refine (HW.out _).mono ?_
            rintro e w1 ⟨rfl, rfl⟩
            go_wp2_with fail
            go_ret
            exact ⟨ret_bool (by rw [HR.out, HN.out]; rfl), hB⟩
          · rw [hb] at HW
            have HN := Lib.hid (all_take_succ HA.out hx hb)
            clear hx hb HG
            go_wp2_with fail
            refine (HW.out _).mono ?_
            rintro e w1 ⟨rfl, rfl⟩
            go_wp2_with fail
            go_round
            case rel => exact ⟨k + 1, by omega, by go_num, HN⟩
            case measure => simp [intOf]; omega
        · obtain rfl : k = ns.length := by omega
          have HE : Hid (ns.all wordB = true) := by have := HA.out; rwa [List.take_length] at this
          clear HG
          go_wp2
          go_ret
          exact ⟨ret_bool (by rw [HR.out, HE.out]; rfl), hB⟩
  · have e1 : (f == 0) = false := beq_eq_false_iff_ne.2 k5
    have e2 : (f != 0) = true := bne_iff_ne.2 k5
    have K5 := Lib.hid k5
    cases k6 : houseB f
    · skip
      have HR : Hid (R = false) := by rw [Hid, HD2.out]; simp [offerB, k6, K5.out]
      clear HD2 HG
      go_enter Tryz.func33, Tryz.ntmps33
      go_wp2_with (first | (go_at_call 58; refine (l03House_any _ _).mono ?_; rintro e w' ⟨rfl, rfl⟩) | (go_at_call 56; refine (l02Is_any _ _ _ _).mono ?_; rintro e w' ⟨rfl, rfl⟩))
      refine (HO.out _ (by go_grown)).mono ?_
      rintro e w1 ⟨rfl, hb1⟩
      have hB := boxed hb1
      have bl : Block w1 w.heap.size 40 #[.int .i64 h, .int .i64 l, .int .i64 o, .slice A1 ns.length c1, .slice A2 hs.length c2, .bool b, .int .i64 f] := (Block.new w _ _).on hb1
      have q3 := bl.cell 3
      have q4 := bl.cell 4
      have q5 := bl.cell 5
      have q6 := bl.cell 6
      have q2 := bl.cell 2
      clear bl hb1
      go_wp2_with (first | (go_at_call 58; refine (l03House_any _ _).mono ?_; rintro e w' ⟨rfl, rfl⟩) | (go_at_call 56; refine (l02Is_any _ _ _ _).mono ?_; rintro e w' ⟨rfl, rfl⟩))
      go_ret
      exact ⟨ret_bool HR.out.symm, hB⟩
    · by_cases k7 : f = o
      · have e3 : (f == o) = true := beq_iff_eq.2 k7
        have K7 := Lib.hid k7
        clear k5 k7
        have HR : Hid (R = false) := by rw [Hid, HD2.out]; rw [offerB, decide_eq_false K5.out, decide_eq_true K7.out]; simp
        clear HD2 HG
        go_enter Tryz.func33, Tryz.ntmps33
        go_wp2_with (first | (go_at_call 58; refine (l03House_any _ _).mono ?_; rintro e w' ⟨rfl, rfl⟩) | (go_at_call 56; refine (l02Is_any _ _ _ _).mono ?_; rintro e w' ⟨rfl, rfl⟩))
        refine (HO.out _ (by go_grown)).mono ?_
        rintro e w1 ⟨rfl, hb1⟩
        have hB := boxed hb1
        have bl : Block w1 w.heap.size 40 #[.int .i64 h, .int .i64 l, .int .i64 o, .slice A1 ns.length c1, .slice A2 hs.length c2, .bool b, .int .i64 f] := (Block.new w _ _).on hb1
        have q3 := bl.cell 3
        have q4 := bl.cell 4
        have q5 := bl.cell 5
        have q6 := bl.cell 6
        have q2 := bl.cell 2
        clear bl hb1
        go_wp2_with (first | (go_at_call 58; refine (l03House_any _ _).mono ?_; rintro e w' ⟨rfl, rfl⟩) | (go_at_call 56; refine (l02Is_any _ _ _ _).mono ?_; rintro e w' ⟨rfl, rfl⟩))
        go_ret
        exact ⟨ret_bool HR.out.symm, hB⟩
      · have e3 : (f == o) = false := beq_eq_false_iff_ne.2 k7
        have e4 : (f != o) = true := bne_iff_ne.2 k7
        have K7 := Lib.hid k7
        clear k7 k5
        cases b
        · by_cases k6' : hs.length = 0
          · have k7 : (hs.length : Int) = 0 := by omega
            have k8 : ((hs.length : Int) == 0) = true := by rw [k7]; rfl
            replace k7 := Lib.hid k7
            replace k6' := Lib.hid k6'
            have HR : Hid (R = (ns.all wordB && false)) := by rw [Hid, HD2.out]; simp [lastB, K5.out]
            clear HD2
            go_enter Tryz.func33, Tryz.ntmps33
            go_wp2_with (first | (go_at_call 58; refine (l03House_any _ _).mono ?_; rintro e w' ⟨rfl, rfl⟩) | (go_at_call 56; refine (l02Is_any _ _ _ _).mono ?_; rintro e w' ⟨rfl, rfl⟩))
            refine (HO.out _ (by go_grown)).mono ?_
            rintro e w1 ⟨rfl, hb1⟩
            have hB := boxed hb1
            have bl : Block w1 w.heap.size 40 #[.int .i64 h, .int .i64 l, .int .i64 o, .slice A1 ns.length c1, .slice A2 hs.length c2, .bool false, .int .i64 f] := (Block.new w _ _).on hb1
            have q3 := bl.cell 3
            have q4 := bl.cell 4
            have q5 := bl.cell 5
            have q6 := bl.cell 6
            have q2 := bl.cell 2
            clear bl hb1
            go_wp2_with (first | (go_at_call 58; refine (l03House_any _ _).mono ?_; rintro e w' ⟨rfl, rfl⟩) | (go_at_call 56; refine (l02Is_any _ _ _ _).mono ?_; rintro e w' ⟨rfl, rfl⟩))
            go_loop [3] (fun i => ∃ k : Nat, k ≤ ns.length ∧ i = .int .i64 k ∧ Hid ((ns.take k).all wordB = true)) (fun i => ns.length - (intOf i).toNat)
            case atStart => exact ⟨0, Nat.zero_le _, rfl, rfl⟩
            case round =>
              obtain ⟨k, hk, rfl, HA⟩ := hrel
              by_cases hlt : k < ns.length
              · obtain ⟨bb, off, s, rfl, hx, hs', c0⟩ := HG.out k hk w1 hB hlt
                have HW : Hid (∀ W : World, Calls Tryz.prog 59 #[.string s] W fun e w' => e = .returned (.bool (wordB s)) ∧ W = w') := fun W => sWord_any s W hs'
                cases hb : wordB s
                · rw [hb] at HW
                  have HN := Lib.hid (names_no hx hb)
                  clear hx hb HG
                  go_wp2_with fail
                  refine (HW.out _).mono ?_
                  rintro e w1 ⟨rfl, rfl⟩
                  go_wp2_with fail
                  go_ret
                  exact ⟨ret_bool (by rw [HR.out, HN.out]; rfl), hB⟩
                · rw [hb] at HW
                  have HN := Lib.hid (all_take_succ HA.out hx hb)
                  clear hx hb HG
                  go_wp2_with fail
                  refine (HW.out _).mono ?_
                  rintro e w1 ⟨rfl, rfl⟩
                  go_wp2_with fail
                  go_round
                  case rel => exact ⟨k + 1, by omega, by go_num, HN⟩
                  case measure => simp [intOf]; omega
              · obtain rfl : k = ns.length := by omega
                have HE : Hid (ns.all wordB = true) := by have := HA.out; rwa [List.take_length] at this
                clear HG
                go_wp2
                go_ret
                exact ⟨ret_bool (by rw [HR.out, HE.out]; rfl), hB⟩
          · have k8 : ((hs.length : Int) == 0) = false := beq_eq_false_iff_ne.2 (by omega)
            have HR : Hid (R = (ns.all wordB && false)) := by rw [Hid, HD2.out]; simp [lastB, K5.out]
            clear HD2
            go_enter Tryz.func33, Tryz.ntmps33
            go_wp2_with (first | (go_at_call 58; refine (l03House_any _ _).mono ?_; rintro e w' ⟨rfl, rfl⟩) | (go_at_call 56; refine (l02Is_any _ _ _ _).mono ?_; rintro e w' ⟨rfl, rfl⟩))
            refine (HO.out _ (by go_grown)).mono ?_
            rintro e w1 ⟨rfl, hb1⟩
            have hB := boxed hb1
            have bl : Block w1 w.heap.size 40 #[.int .i64 h, .int .i64 l, .int .i64 o, .slice A1 ns.length c1, .slice A2 hs.length c2, .bool false, .int .i64 f] := (Block.new w _ _).on hb1
            have q3 := bl.cell 3
            have q4 := bl.cell 4
            have q5 := bl.cell 5
            have q6 := bl.cell 6
            have q2 := bl.cell 2
            clear bl hb1
            go_wp2_with (first | (go_at_call 58; refine (l03House_any _ _).mono ?_; rintro e w' ⟨rfl, rfl⟩) | (go_at_call 56; refine (l02Is_any _ _ _ _).mono ?_; rintro e w' ⟨rfl, rfl⟩))
            go_loop [3] (fun i => ∃ k : Nat, k ≤ ns.length ∧ i = .int .i64 k ∧ Hid ((ns.take k).all wordB = true)) (fun i => ns.length - (intOf i).toNat)
            case atStart => exact ⟨0, Nat.zero_le _, rfl, rfl⟩
            case round =>
              obtain ⟨k, hk, rfl, HA⟩ := hrel
              by_cases hlt : k < ns.length
              · obtain ⟨bb, off, s, rfl, hx, hs', c0⟩ := HG.out k hk w1 hB hlt
                have HW : Hid (∀ W : World, Calls Tryz.prog 59 #[.string s] W fun e w' => e = .returned (.bool (wordB s)) ∧ W = w') := fun W => sWord_any s W hs'
                cases hb : wordB s
                · rw [hb] at HW
                  have HN := Lib.hid (names_no hx hb)
                  clear hx hb HG
                  go_wp2_with fail
                  refine (HW.out _).mono ?_
                  rintro e w1 ⟨rfl, rfl⟩
                  go_wp2_with fail
                  go_ret
                  exact ⟨ret_bool (by rw [HR.out, HN.out]; rfl), hB⟩
                · rw [hb] at HW
                  have HN := Lib.hid (all_take_succ HA.out hx hb)
                  clear hx hb HG
                  go_wp2_with fail
                  refine (HW.out _).mono ?_
                  rintro e w1 ⟨rfl, rfl⟩
                  go_wp2_with fail
                  go_round
                  case rel => exact ⟨k + 1, by omega, by go_num, HN⟩
                  case measure => simp [intOf]; omega
              · obtain rfl : k = ns.length := by omega
                have HE : Hid (ns.all wordB = true) := by have := HA.out; rwa [List.take_length] at this
                clear HG
                go_wp2
                go_ret
                exact ⟨ret_bool (by rw [HR.out, HE.out]; rfl), hB⟩
        · skip
          have HR : Hid (R = (ns.all wordB && true)) := by rw [Hid, HD2.out]; simp [offerB, lastB, k6, K5.out, K7.out]
          clear HD2
          go_enter Tryz.func33, Tryz.ntmps33
          go_wp2_with (first | (go_at_call 58; refine (l03House_any _ _).mono ?_; rintro e w' ⟨rfl, rfl⟩) | (go_at_call 56; refine (l02Is_any _ _ _ _).mono ?_; rintro e w' ⟨rfl, rfl⟩))
          refine (HO.out _ (by go_grown)).mono ?_
          rintro e w1 ⟨rfl, hb1⟩
          have hB := boxed hb1
          have bl : Block w1 w.heap.size 40 #[.int .i64 h, .int .i64 l, .int .i64 o, .slice A1 ns.length c1, .slice A2 hs.length c2, .bool true, .int .i64 f] := (Block.new w _ _).on hb1
          have q3 := bl.cell 3
          have q4 := bl.cell 4
          have q5 := bl.cell 5
          have q6 := bl.cell 6
          have q2 := bl.cell 2
          clear bl hb1
          go_wp2_with (first | (go_at_call 58; refine (l03House_any _ _).mono ?_; rintro e w' ⟨rfl, rfl⟩) | (go_at_call 56; refine (l02Is_any _ _ _ _).mono ?_; rintro e w' ⟨rfl, rfl⟩))
          go_loop [3] (fun i => ∃ k : Nat, k ≤ ns.length ∧ i = .int .i64 k ∧ Hid ((ns.take k).all wordB = true)) (fun i => ns.length - (intOf i).toNat)
          case atStart => exact ⟨0, Nat.zero_le _, rfl, rfl⟩
          case round =>
            obtain ⟨k, hk, rfl, HA⟩ := hrel
            by_cases hlt : k < ns.length
            · obtain ⟨bb, off, s, rfl, hx, hs', c0⟩ := HG.out k hk w1 hB hlt
              have HW : Hid (∀ W : World, Calls Tryz.prog 59 #[.string s] W fun e w' => e = .returned (.bool (wordB s)) ∧ W = w') := fun W => sWord_any s W hs'
              cases hb : wordB s
              · rw [hb] at HW
                have HN := Lib.hid (names_no hx hb)
                clear hx hb HG
                go_wp2_with fail
                refine (HW.out _).mono ?_
                rintro e w1 ⟨rfl, rfl⟩
                go_wp2_with fail
                go_ret
                exact ⟨ret_bool (by rw [HR.out, HN.out]; rfl), hB⟩
              · rw [hb] at HW
                have HN := Lib.hid (all_take_succ HA.out hx hb)
                clear hx hb HG
                go_wp2_with fail
                refine (HW.out _).mono ?_
                rintro e w1 ⟨rfl, rfl⟩
                go_wp2_with fail
                go_round
                case rel => exact ⟨k + 1, by omega, by go_num, HN⟩
                case measure => simp [intOf]; omega
            · obtain rfl : k = ns.length := by omega
              have HE : Hid (ns.all wordB = true) := by have := HA.out; rwa [List.take_length] at this
              clear HG
              go_wp2
              go_ret
              exact ⟨ret_bool (by rw [HR.out, HE.out]; rfl), hB⟩
end Go.Proofs.YtihlilihipcfaaaGreatDoor
