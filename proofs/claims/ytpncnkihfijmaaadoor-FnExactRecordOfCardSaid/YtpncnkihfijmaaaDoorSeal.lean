/-
  Seal, Unseal: the walks.
-/
import Derived.Test.YtpncnkihfijmaaaDoorPut
import Derived.Test.YtpncnkihfijmaaaDoorStrCells
import Derived.LoopN
namespace Go.Proofs.YtpncnkihfijmaaaDoor
open Go.ChangeShapes Go.WideShapes Go.ChangeAt Go.RowKit Go.ChangeMaps
set_option maxRecDepth 10000
set_option linter.unusedSimpArgs false
set_option linter.unusedVariables false

/-- The four bytes of a CRC, the lowest first. -/
def fourL (c : Nat) : List UInt8 := [UInt8.ofNat (c % 256), UInt8.ofNat (c / 256 % 256), UInt8.ofNat (c / 65536 % 256), UInt8.ofNat (c / 16777216 % 256)]
theorem fourL_length (c : Nat) : (fourL c).length = 4 := rfl

theorem four_cells (c : Nat) (hc : c < 4294967296) (w : World) (e' : TypeId) (j : Nat) (hj : j < (fourL c).length) :
    (w.alloc (.cells #[.int .u8 (↑c % 256), .int .u8 (↑c / 256 % 256), .int .u8 (↑c / 65536 % 256), .int .u8 (↑c / 16777216)] e')).cell? ((⟨w.heap.size, 0, none⟩ : Addr).add j) = some (byteV (fourL c)[j]) := by
  have hadd : ((⟨w.heap.size, 0, none⟩ : Addr).add j) = ⟨w.heap.size, j, none⟩ := by unfold Addr.add; split <;> simp_all
  rw [hadd, cell_of_row _ w.heap.size j _ e' (0, 0) (heap_alloc_new w _)]
  rw [fourL_length] at hj
  match j, hj with
  | 0, _ => exact byte_eq (by omega) (by omega)
  | 1, _ => exact byte_eq (by omega) (by omega)
  | 2, _ => exact byte_eq (by omega) (by omega)
  | 3, _ => exact byte_eq (by omega) (by omega)

set_option maxHeartbeats 400000 in
theorem l01Four_any (c : Nat) (hc : c < 4294967296) (w : World) : Calls Tryd.prog 46 #[.int .i64 c] w fun e w' => e = .returned (.string ⟨(fourL c).toArray⟩) ∧ Below w.heap.size w w' := by
  go_enter Tryd.func46, Tryd.ntmps46
  go_wp2_with (refine wpList_str_cells Tryd.underlying54 Tryd.underlying5 Tryd.underlying9 ⟨w.heap.size, 0, none⟩ (fourL c) _ _ rfl rfl ?_ ?_; rotate_left)
  · go_ret
    exact ⟨rfl, (Below.refl _ _).alloc (Nat.le_refl _) _⟩
  · exact four_cells c hc w _

set_option maxHeartbeats 400000 in
theorem lowFirst_any (c : Nat) (hc : c < 4294967296) (w : World) : Calls Tryd.prog 40 #[.int .u32 c] w fun e w' => e = .returned (.string ⟨(fourL c).toArray⟩) ∧ Below w.heap.size w w' := by
  go_enter Tryd.func40, Tryd.ntmps40
  go_wp2
  refine wp_loop_rounds 5 ?_
  iterate 5
    rw [rounds_succ]
    go_wp2_with (refine wpList_str_cells Tryd.underlying54 Tryd.underlying5 Tryd.underlying9 ⟨w.heap.size, 0, none⟩ (fourL c) _ _ rfl rfl ?_ ?_; rotate_left)
  · go_ret
    exact ⟨rfl, (Below.refl _ _).alloc (Nat.le_refl _) _⟩
  · exact four_cells c hc w _

/-- What Seal answers. -/
def sealL (s : ByteArray) : List UInt8 := if 7996 < s.size then [] else s.data.toList ++ fourL (crcOf 0 s.data.toList)
def sealS (s : ByteArray) : ByteArray := ⟨(sealL s).toArray⟩

set_option maxHeartbeats 400000 in
theorem iSeal_any (s : ByteArray) (w : World) (hs : s.size ≤ 1048576) : Calls Tryd.prog 20 #[.string s] w fun e w' => e = .returned (.string (sealS s)) ∧ Below w.heap.size w w' := by
  by_cases h : 7996 < s.size
  · go_enter Tryd.func20, Tryd.ntmps20
    go_wp2
    go_ret
    refine ⟨?_, Below.refl _ _⟩
    rw [sealS, sealL, if_pos h]
    rfl
  · have hlt : crcOf 0 s.data.toList < 4294967296 := crcOf_lt (by omega)
    have hm : crcMoreI 0 s = ((crcOf 0 s.data.toList : Nat) : Int) := by rw [crcMoreI, if_neg (by omega)]; rfl
    go_enter Tryd.func20, Tryd.ntmps20
    go_wp2_with (first
      | (go_at_call 41; refine (iCrc_any _ _).mono ?_; rintro e w1 ⟨rfl, rfl⟩)
      | (go_at_call 40; refine (lowFirst_any _ hlt _).mono ?_; rintro e w1 ⟨rfl, hb1⟩))
    refine (joined_two _ _ _ _ (by have h4 := bsize (fourL (crcOf 0 s.data.toList)); rw [fourL_length] at h4; omega)).mono ?_
    rintro e w2 ⟨rfl, hb2⟩
    go_wp2
    go_ret
    refine ⟨?_, hb1.trans (hb2.mono hb1.size)⟩
    rw [sealS, sealL, if_neg h]
    rfl

set_option maxHeartbeats 400000 in
theorem sSeal_any (s : ByteArray) (w : World) (hs : s.size ≤ 1048576) : Calls Tryd.prog 36 #[.string s] w fun e w' => e = .returned (.string (sealS s)) ∧ Below w.heap.size w w' := by
  by_cases h : 7996 < s.size
  · go_enter Tryd.func36, Tryd.ntmps36
    go_wp2
    go_ret
    refine ⟨?_, Below.refl _ _⟩
    rw [sealS, sealL, if_pos h]
    rfl
  · have hlt : crcOf 0 s.data.toList < 4294967296 := crcOf_lt (by omega)
    have hz : (ByteArray.mk (fourL (crcOf 0 s.data.toList)).toArray).size ≤ 4 := by rw [bsize, fourL_length]; omega
    have hf := Lib.hid (bappend' s (fourL (crcOf 0 s.data.toList)))
    generalize hF : ByteArray.mk (fourL (crcOf 0 s.data.toList)).toArray = F at *
    have HF := Lib.hid hF
    clear hF
    go_enter Tryd.func36, Tryd.ntmps36
    go_wp2_with (first
      | (go_at_call 47; refine (l01Crc_yes 0 s _ (by omega) (by omega)).mono ?_; rintro e w1 ⟨rfl, rfl⟩)
      | (go_at_call 46; refine (l01Four_any _ hlt _).mono ?_; rw [HF.out]; rintro e w1 ⟨rfl, hb1⟩))
    go_ret
    refine ⟨?_, hb1⟩
    rw [sealS, sealL, if_neg h]
    exact congrArg (fun z => Ending.returned (.string z)) hf.out

end Go.Proofs.YtpncnkihfijmaaaDoor
