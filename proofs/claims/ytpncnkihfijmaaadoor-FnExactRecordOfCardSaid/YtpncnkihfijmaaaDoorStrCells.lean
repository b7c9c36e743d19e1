/-
  string(b) where the bytes lie in known cells. Over any program.
-/
import Derived.Test.YtpncnkihfijmaaaDoorBytes
namespace Go.Proofs.YtpncnkihfijmaaaDoor
open Go.ChangeShapes Go.WideShapes Go.ChangeAt Go.RowKit Go.ChangeMaps
set_option maxRecDepth 10000
set_option linter.unusedSimpArgs false
set_option linter.unusedVariables false

section
variable {P : Program} {w : World} {ops : Array Oper} {rest : List Oper} {a : Act} {Q : Exit → Act → World → Prop}
/-- string(b) where the bytes lie somewhere. -/
theorem wpList_str_cells {dst : Option Tmp} {ty : TypeId} {pos : String} {after : Array Edge} {x : Operand} {src dT e : TypeId}
    (hs : P.underlying src = some (.slice e)) (he : P.underlying e = some (.int .u8)) (hd : P.underlying dT = some .string)
    (ad : Addr) (l : List UInt8) (n cap : Nat) (hx : a.eval x = .slice (some ad) n cap) (hn : l.length = n) (hc : ∀ j (hj : j < l.length), w.cell? (ad.add j) = some (byteV l[j]))
    (h : wpList P ops Q rest (a.put dst (.string ⟨l.toArray⟩)) w) :
    wpList P ops Q (⟨dst, .convert src dT x, ty, pos, after, none⟩ :: rest) a w := by
  subst hn
  have hrun : (convert src dT (.slice (some ad) l.length cap)).run P w = .ok (.string ⟨l.toArray⟩) w := run_convert_bytes_back w src dT e ad cap l hs he hd hc
  refine wpList_plain rfl fun K hK => ?_
  unfold Oper.wp
  simp [execOp, hx, hrun, Result.andThen]
  exact hK _ _ h
end

theorem byte_eq {x : Int} {n : Nat} (h : x = n) (hn : n < 256) : some (Value.int .u8 x) = some (byteV (UInt8.ofNat n)) := by
  rw [byteV, ofNat_toNat hn, h]

section
variable {P : Program} {w : World} {ops : Array Oper} {rest : List Oper} {a : Act} {Q : Exit → Act → World → Prop}
/-- string([]byte{b}). -/
theorem wpList_str_one {dst : Option Tmp} {ty : TypeId} {pos : String} {after : Array Edge} {x : Operand} {src dT e e' : TypeId} {y : Int}
    (hs : P.underlying src = some (.slice e)) (he : P.underlying e = some (.int .u8)) (hd : P.underlying dT = some .string)
    (b : UInt8) (hy : y = b.toNat) (hx : a.eval x = .slice (some ⟨w.heap.size, 0, none⟩) 1 1)
    (h : wpList P ops Q rest (a.put dst (.string ⟨[b].toArray⟩)) (w.alloc (.cells #[.int .u8 y] e'))) :
    wpList P ops Q (⟨dst, .convert src dT x, ty, pos, after, none⟩ :: rest) a (w.alloc (.cells #[.int .u8 y] e')) := by
  refine wpList_str_cells hs he hd ⟨w.heap.size, 0, none⟩ [b] 1 1 hx rfl (fun j hj => ?_) h
  have hadd : ((⟨w.heap.size, 0, none⟩ : Addr).add j) = ⟨w.heap.size, j, none⟩ := by unfold Addr.add; split <;> simp_all
  rw [hadd, cell_of_row _ w.heap.size j _ e' (0, 0) (heap_alloc_new w _)]
  match j, hj with
  | 0, _ => exact congrArg some (val_int hy)
/-- .. as an equation, behind a draw. -/
theorem run_str_one {P : Program} (W : World) {src dT e e' : TypeId} {y : Int} (hs : P.underlying src = some (.slice e)) (he : P.underlying e = some (.int .u8)) (hd : P.underlying dT = some .string) (b : UInt8) (hy : y = b.toNat) :
    (convert src dT (.slice (some ⟨W.heap.size, 0, none⟩) 1 1)).run P (W.alloc (.cells #[.int .u8 y] e')).drew = .ok (.string ⟨[b].toArray⟩) (W.alloc (.cells #[.int .u8 y] e')).drew := by
  refine run_convert_bytes_back (W.alloc (.cells #[.int .u8 y] e')).drew src dT e ⟨W.heap.size, 0, none⟩ 1 [b] hs he hd (fun j hj => ?_)
  have hadd : ((⟨W.heap.size, 0, none⟩ : Addr).add j) = ⟨W.heap.size, j, none⟩ := by unfold Addr.add; split <;> simp_all
  rw [hadd]
  show (W.alloc (.cells #[.int .u8 y] e')).cell? _ = _
  rw [cell_of_row _ W.heap.size j _ e' (0, 0) (heap_alloc_new W _)]
  match j, hj with
  | 0, _ => exact congrArg some (val_int hy)
end
end Go.Proofs.YtpncnkihfijmaaaDoor
