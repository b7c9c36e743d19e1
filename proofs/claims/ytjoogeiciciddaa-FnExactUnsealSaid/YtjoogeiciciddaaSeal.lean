/-
  Seal, Unseal: the walks.
-/
import Derived.Test.YtjoogeiciciddaaPut
import Derived.LoopN
namespace Go.Proofs.Ytjoogeiciciddaa
open Go.ChangeShapes Go.WideShapes Go.ChangeAt Go.RowKit Go.ChangeMaps
set_option linter.unusedSimpArgs false
set_option linter.unusedVariables false

/-- The four bytes of a CRC, the lowest first. -/
def fourL (c : Nat) : List UInt8 := [UInt8.ofNat (c % 256), UInt8.ofNat (c / 256 % 256), UInt8.ofNat (c / 65536 % 256), UInt8.ofNat (c / 16777216 % 256)]
theorem fourL_length (c : Nat) : (fourL c).length = 4 := rfl

section
variable {P : Program} {w : World} {ops : Array Oper} {rest : List Oper} {a : Act} {Q : Exit → Act → World → Prop}
/-- string(b) where the bytes lie somewhere. -/
theorem wpList_str_cells {dst : Option Tmp} {ty : TypeId} {pos : String} {after : Array Edge} {x : Operand} {src dT e : TypeId}
    (hs : P.underlying src = some (.slice e)) (he : P.underlying e = some (.int .u8)) (hd : P.underlying dT = some .string)
    (ad : Addr) (l : List UInt8) (n cap : Nat) (hx : a.eval x = .slice (some ad) n cap) (hn : l.length = n) (hc : ∀ j (hj : j < l.length), w.cell? (ad.add j) = some (byteV l[j]))
    (h : wpList P ops Q rest (a.put dst (.string ⟨l.toArray⟩)) w) :
    wpList P ops Q (⟨dst, .convert src dT x, ty, pos, after, none⟩ :: rest) a w := by
  subst hn
  have hrun : (convert src dT (.slice (some ad) l.length cap)).run P w = .ok (.string ⟨l.toArray⟩) w := run_convert_bytes_back w src dT e ad cap l hs he hd hc
  refine wpList_plain rfl fun K hK => ?_
  unfold Oper.wp
  simp [execOp, hx, hrun, Result.andThen]
  exact hK _ _ h
end

theorem byte_eq {x : Int} {n : Nat} (h : x = n) (hn : n < 256) : some (Value.int .u8 x) = some (byteV (UInt8.ofNat n)) := by
  rw [byteV, ofNat_toNat hn, h]
theorem four_cells (c : Nat) (hc : c < 4294967296) (w : World) (e' : TypeId) (j : Nat) (hj : j < (fourL c).length) :
    (w.alloc (.cells #[.int .u8 (↑c % 256), .int .u8 (↑c / 256 % 256), .int .u8 (↑c / 65536 % 256), .int .u8 (↑c / 16777216)] e')).cell? ((⟨w.heap.size, 0, none⟩ : Addr).add j) = some (byteV (fourL c)[j]) := by
  have hadd : ((⟨w.heap.size, 0, none⟩ : Addr).add j) = ⟨w.heap.size, j, none⟩ := by unfold Addr.add; split <;> simp_all
  rw [hadd, cell_of_row _ w.heap.size j _ e' (0, 0) (heap_alloc_new w _)]
  rw [fourL_length] at hj
  match j, hj with
  | 0, _ => exact byte_eq (by omega) (by omega)
  | 1, _ => exact byte_eq (by omega) (by omega)
  | 2, _ => exact byte_eq (by omega) (by omega)
  | 3, _ => exact byte_eq (by omega) (by omega)

set_option maxHeartbeats 400000 in
theorem l01Four_any (c : Nat) (hc : c < 4294967296) (w : World) : Calls Try.prog 33 #[.int .i64 c] w fun e w' => e = .returned (.string ⟨(fourL c).toArray⟩) ∧ Below w.heap.size w w' := by
  go_enter Try.func33, Try.ntmps33
  go_wp2_with (refine wpList_str_cells Try.underlying35 Try.underlying5 Try.underlying9 ⟨w.heap.size, 0, none⟩ (fourL c) _ _ rfl rfl ?_ ?_; rotate_left)
  · go_ret
    exact ⟨rfl, (Below.refl _ _).alloc (Nat.le_refl _) _⟩
  · exact four_cells c hc w _

set_option maxHeartbeats 400000 in
theorem lowFirst_any (c : Nat) (hc : c < 4294967296) (w : World) : Calls Try.prog 34 #[.int .u32 c] w fun e w' => e = .returned (.string ⟨(fourL c).toArray⟩) ∧ Below w.heap.size w w' := by
  go_enter Try.func34, Try.ntmps34
  go_wp2
  refine wp_loop_rounds 5 ?_
  iterate 5
    rw [rounds_succ]
    go_wp2_with (refine wpList_str_cells Try.underlying35 Try.underlying5 Try.underlying9 ⟨w.heap.size, 0, none⟩ (fourL c) _ _ rfl rfl ?_ ?_; rotate_left)
  · go_ret
    exact ⟨rfl, (Below.refl _ _).alloc (Nat.le_refl _) _⟩
  · exact four_cells c hc w _

theorem bappend' (s : ByteArray) (l : List UInt8) : s ++ ByteArray.mk l.toArray = ⟨(s.data.toList ++ l).toArray⟩ := by
  rw [ByteArray.ext_iff]; simp
/-- What Seal answers. -/
def sealL (s : ByteArray) : List UInt8 := if 7996 < s.size then [] else s.data.toList ++ fourL (crcOf 0 s.data.toList)
def sealS (s : ByteArray) : ByteArray := ⟨(sealL s).toArray⟩

set_option maxHeartbeats 400000 in
theorem iSeal_any (s : ByteArray) (w : World) (hs : s.size ≤ 1048576) : Calls Try.prog 21 #[.string s] w fun e w' => e = .returned (.string (sealS s)) ∧ Below w.heap.size w w' := by
  by_cases h : 7996 < s.size
  · go_enter Try.func21, Try.ntmps21
    go_wp2
    go_ret
    refine ⟨?_, Below.refl _ _⟩
    rw [sealS, sealL, if_pos h]
    rfl
  · have hlt : crcOf 0 s.data.toList < 4294967296 := crcOf_lt (by omega)
    have hm : crcMoreI 0 s = ((crcOf 0 s.data.toList : Nat) : Int) := by rw [crcMoreI, if_neg (by omega)]; rfl
    go_enter Try.func21, Try.ntmps21
    go_wp2_with (first
      | (go_at_call 17; refine (iCrc_any _ _).mono ?_; rintro e w1 ⟨rfl, rfl⟩)
      | (go_at_call 34; refine (lowFirst_any _ hlt _).mono ?_; rintro e w1 ⟨rfl, hb1⟩))
    refine (joined_two _ _ _ _ (by have h4 := bsize (fourL (crcOf 0 s.data.toList)); rw [fourL_length] at h4; omega)).mono ?_
    rintro e w2 ⟨rfl, hb2⟩
    go_wp2
    go_ret
    refine ⟨?_, hb1.trans (hb2.mono hb1.size)⟩
    rw [sealS, sealL, if_neg h]
    rfl

set_option maxHeartbeats 400000 in
theorem sSeal_any (s : ByteArray) (w : World) (hs : s.size ≤ 1048576) : Calls Try.prog 20 #[.string s] w fun e w' => e = .returned (.string (sealS s)) ∧ Below w.heap.size w w' := by
  by_cases h : 7996 < s.size
  · go_enter Try.func20, Try.ntmps20
    go_wp2
    go_ret
    refine ⟨?_, Below.refl _ _⟩
    rw [sealS, sealL, if_pos h]
    rfl
  · have hlt : crcOf 0 s.data.toList < 4294967296 := crcOf_lt (by omega)
    have hz : (ByteArray.mk (fourL (crcOf 0 s.data.toList)).toArray).size ≤ 4 := by rw [bsize, fourL_length]; omega
    have hf := Lib.hid (bappend' s (fourL (crcOf 0 s.data.toList)))
    generalize hF : ByteArray.mk (fourL (crcOf 0 s.data.toList)).toArray = F at *
    have HF := Lib.hid hF
    clear hF
    go_enter Try.func20, Try.ntmps20
    go_wp2_with (first
      | (go_at_call 31; refine (l01Crc_yes 0 s _ (by omega) (by omega)).mono ?_; rintro e w1 ⟨rfl, rfl⟩)
      | (go_at_call 33; refine (l01Four_any _ hlt _).mono ?_; rw [HF.out]; rintro e w1 ⟨rfl, hb1⟩))
    go_ret
    refine ⟨?_, hb1⟩
    rw [sealS, sealL, if_neg h]
    exact congrArg (fun z => Ending.returned (.string z)) hf.out

set_option maxHeartbeats 400000 in
theorem seal_walk (s : ByteArray) (w : World) (hs : s.size ≤ maxLen) : Calls Try.prog 8 #[.string s] w fun e w' => Holds e w w' := by
  unfold maxLen at hs
  by_cases h1 : 1048576 < s.size
  · go_enter Try.func8, Try.ntmps8
    go_wp2
    go_ret
    exact ⟨rfl, Below.refl _ _⟩
  · go_enter Try.func8, Try.ntmps8
    go_wp2_with (first
          | (go_at_call 20; refine (sSeal_any _ _ (by omega)).mono ?_; rintro e w1 ⟨rfl, hb1⟩)
          | (go_at_call 21; refine (iSeal_any _ _ (by omega)).mono ?_; rintro e w2 ⟨rfl, hb2⟩))
    go_ret
    exact ⟨rfl, hb1.trans (hb2.mono hb1.size)⟩


end Go.Proofs.Ytjoogeiciciddaa
