/-
  RecordOf: what both functions answer.
-/
import Derived.Test.YtpncnkihfijmaaaDoorReqTS
import Derived.Test.YtpncnkihfijmaaaDoorReqTJ
import Derived.Test.YtpncnkihfijmaaaDoorSeal
import Derived.Test.YtpncnkihfijmaaaDoorPut
namespace Go.Proofs.YtpncnkihfijmaaaDoor
open Go.ChangeShapes Go.WideShapes Go.ChangeAt Go.RowKit Go.ChangeMaps
set_option maxRecDepth 10000
set_option linter.unusedSimpArgs false
set_option linter.unusedVariables false

/-- What RecordOf answers. -/
def recT (x : RQ) : ByteArray := if reqB x = true then putTextS (sealS (reqT x)) else ⟨#[]⟩
theorem sealS_size {s : ByteArray} (h : s.size ≤ 7996) : (sealS s).size = s.size + 4 := by
  rw [sealS, bsize, sealL, if_neg (by omega), List.length_append, fourL_length]
  simp

set_option maxHeartbeats 400000 in
theorem l08Record_any (k t h l : Int) (n f : ByteArray) (r c o : Int) (w : World) (hr : reqB ⟨k, t, h, l, n, f, r, c, o⟩ = true) :
    Calls Tryd.prog 18 #[reqV k t h l n f r c o] w fun e w' => e = .returned (.string (recT ⟨k, t, h, l, n, f, r, c, o⟩)) ∧ Below w.heap.size w w' := by
  have HL : Hid (∀ W : World, Calls Tryd.prog 12 #[reqV k t h l n f r c o] W fun e w' => e = .returned (.string (reqT ⟨k, t, h, l, n, f, r, c, o⟩)) ∧ Below W.heap.size W w') := fun W => l06Text_any k t h l n f r c o W hr
  have hs := reqT_size ⟨k, t, h, l, n, f, r, c, o⟩
  have HR : Hid (recT ⟨k, t, h, l, n, f, r, c, o⟩ = putTextS (sealS (reqT ⟨k, t, h, l, n, f, r, c, o⟩))) := if_pos hr
  generalize recT ⟨k, t, h, l, n, f, r, c, o⟩ = R at *
  generalize reqT ⟨k, t, h, l, n, f, r, c, o⟩ = T at *
  have HS : Hid (∀ W : World, Calls Tryd.prog 36 #[.string T] W fun e w' => e = .returned (.string (sealS T)) ∧ Below W.heap.size W w') := fun W => sSeal_any T W (by omega)
  have hz := sealS_size (s := T) (by omega)
  generalize sealS T = S at *
  have HP : Hid (∀ W : World, Calls Tryd.prog 35 #[.string S] W fun e w' => e = .returned (.string R) ∧ Below W.heap.size W w') := fun W => by
    rw [HR.out]
    exact sPutText_any S W (by omega)
  clear hr HR hs hz
  go_enter Tryd.func18, Tryd.ntmps18
  go_wp2_with fail
  refine (HL.out _).mono ?_
  rintro e w1 ⟨rfl, hb0⟩
  have hb1 := boxR hb0
  go_wp2_with fail
  refine (HS.out _).mono ?_
  rintro e w2 ⟨rfl, hb2⟩
  have hB2 := hb1.trans (hb2.mono hb1.size)
  go_wp2_with fail
  refine (HP.out _).mono ?_
  rintro e w3 ⟨rfl, hb3⟩
  go_wp2_with fail
  go_ret
  exact ⟨rfl, hB2.trans (hb3.mono hB2.size)⟩

set_option maxHeartbeats 400000 in
theorem sRecordOf_any (k t h l : Int) (n f : ByteArray) (r c o : Int) (w : World) (hn : n.size ≤ maxLen) (hf : f.size ≤ maxLen) :
    Calls Tryd.prog 9 #[reqV k t h l n f r c o] w fun e w' => e = .returned (.string (recT ⟨k, t, h, l, n, f, r, c, o⟩)) ∧ Below w.heap.size w w' := by
  have HRR : Hid (∀ W : World, Calls Tryd.prog 11 #[reqV k t h l n f r c o] W fun e w' => e = .returned (.bool (reqB ⟨k, t, h, l, n, f, r, c, o⟩)) ∧ Below W.heap.size W w') := fun W => sReqRight_any k t h l n f r c o W hn hf
  cases hr : reqB ⟨k, t, h, l, n, f, r, c, o⟩
  · rw [hr] at HRR
    have HR : Hid (recT ⟨k, t, h, l, n, f, r, c, o⟩ = ⟨#[]⟩) := by rw [Hid, recT, if_neg (by rw [hr]; simp)]
    generalize recT ⟨k, t, h, l, n, f, r, c, o⟩ = R at *
    clear hr
    go_enter Tryd.func9, Tryd.ntmps9
    go_wp2_with fail
    refine (HRR.out _).mono ?_
    rintro e w1 ⟨rfl, hb1⟩
    go_wp2_with fail
    go_ret
    exact ⟨by rw [HR.out]; rfl, boxR hb1⟩
  · rw [hr] at HRR
    have HL : Hid (∀ W : World, Calls Tryd.prog 18 #[reqV k t h l n f r c o] W fun e w' => e = .returned (.string (recT ⟨k, t, h, l, n, f, r, c, o⟩)) ∧ Below W.heap.size W w') := fun W => l08Record_any k t h l n f r c o W hr
    generalize recT ⟨k, t, h, l, n, f, r, c, o⟩ = R at *
    clear hr
    go_enter Tryd.func9, Tryd.ntmps9
    go_wp2_with fail
    refine (HRR.out _).mono ?_
    rintro e w1 ⟨rfl, hb0⟩
    have hb1 := boxR hb0
    have x1 := ((Block.new w #[.int .i64 k, .int .i64 t, .int .i64 h, .int .i64 l, .string n, .string f, .int .i64 r, .int .i64 c, .int .i64 o] 30).on hb0).cell
    clear hb0
    go_wp2_with fail
    refine (HL.out _).mono ?_
    rintro e w2 ⟨rfl, hb2⟩
    go_wp2_with fail
    go_ret
    exact ⟨rfl, hb1.trans (hb2.mono hb1.size)⟩

set_option maxHeartbeats 400000 in
theorem iRecordOf_any (k t h l : Int) (n f : ByteArray) (r c o : Int) (w : World) (hn : n.size ≤ maxLen) (hf : f.size ≤ maxLen) (hk : KwT w) (hp : PowT w) :
    Calls Tryd.prog 10 #[reqV k t h l n f r c o] w fun e w' => e = .returned (.string (recT ⟨k, t, h, l, n, f, r, c, o⟩)) ∧ Below w.heap.size w w' := by
  have HRR : Hid (∀ W : World, Calls Tryd.prog 14 #[reqV k t h l n f r c o] W fun e w' => e = .returned (.bool (reqB ⟨k, t, h, l, n, f, r, c, o⟩)) ∧ Below W.heap.size W w') := fun W => iReqRight_any k t h l n f r c o W hn hf
  cases hr : reqB ⟨k, t, h, l, n, f, r, c, o⟩
  · rw [hr] at HRR
    have HR : Hid (recT ⟨k, t, h, l, n, f, r, c, o⟩ = ⟨#[]⟩) := by rw [Hid, recT, if_neg (by rw [hr]; simp)]
    generalize recT ⟨k, t, h, l, n, f, r, c, o⟩ = R at *
    clear hr hk hp
    go_enter Tryd.func10, Tryd.ntmps10
    go_wp2_with fail
    refine (HRR.out _).mono ?_
    rintro e w1 ⟨rfl, hb1⟩
    go_wp2_with fail
    go_ret
    exact ⟨by rw [HR.out]; rfl, boxR hb1⟩
  · rw [hr] at HRR
    have HL : Hid (∀ W : World, Below w.heap.size w W → Calls Tryd.prog 8 #[reqV k t h l n f r c o] W fun e w' => e = .returned (.string (reqT ⟨k, t, h, l, n, f, r, c, o⟩)) ∧ Below W.heap.size W w') := fun W hW => iReqText_any k t h l n f r c o W hn hf (hk.on hW) (hp.on hW)
    have hs := reqT_size ⟨k, t, h, l, n, f, r, c, o⟩
    have HR : Hid (recT ⟨k, t, h, l, n, f, r, c, o⟩ = putTextS (sealS (reqT ⟨k, t, h, l, n, f, r, c, o⟩))) := if_pos hr
    generalize recT ⟨k, t, h, l, n, f, r, c, o⟩ = R at *
    generalize reqT ⟨k, t, h, l, n, f, r, c, o⟩ = T at *
    have HS : Hid (∀ W : World, Calls Tryd.prog 20 #[.string T] W fun e w' => e = .returned (.string (sealS T)) ∧ Below W.heap.size W w') := fun W => iSeal_any T W (by omega)
    have hz := sealS_size (s := T) (by omega)
    generalize sealS T = S at *
    have HP : Hid (∀ W : World, Calls Tryd.prog 19 #[.string S] W fun e w' => e = .returned (.string R) ∧ Below W.heap.size W w') := fun W => by
      rw [HR.out]
      exact iPutText_any S W (by omega)
    clear hr HR hs hz hk hp
    go_enter Tryd.func10, Tryd.ntmps10
    go_wp2_with fail
    refine (HRR.out _).mono ?_
    rintro e w1 ⟨rfl, hb0⟩
    have hb1 := boxR hb0
    have x1 := ((Block.new w #[.int .i64 k, .int .i64 t, .int .i64 h, .int .i64 l, .string n, .string f, .int .i64 r, .int .i64 c, .int .i64 o] 30).on hb0).cell
    clear hb0
    go_wp2_with fail
    refine (HL.out _ hb1).mono ?_
    rintro e w2 ⟨rfl, hb2⟩
    have hB2 := hb1.trans (hb2.mono hb1.size)
    go_wp2_with fail
    refine (HS.out _).mono ?_
    rintro e w3 ⟨rfl, hb3⟩
    have hB3 := hB2.trans (hb3.mono hB2.size)
    go_wp2_with fail
    refine (HP.out _).mono ?_
    rintro e w4 ⟨rfl, hb4⟩
    go_wp2_with fail
    go_ret
    exact ⟨rfl, hB3.trans (hb4.mono hB3.size)⟩
end Go.Proofs.YtpncnkihfijmaaaDoor
