/-
  impl.ReqText: at every request. (By gen_reqti.py.)
-/
import Derived.Test.YtpncnkihfijmaaaDoorReqTIa
import Derived.Test.YtpncnkihfijmaaaDoorReqTIb
import Derived.Test.YtpncnkihfijmaaaDoorReqTIc
import Derived.Test.YtpncnkihfijmaaaDoorReqTId
namespace Go.Proofs.YtpncnkihfijmaaaDoor
open Go.ChangeShapes Go.WideShapes Go.ChangeAt Go.RowKit Go.ChangeMaps
set_option maxRecDepth 10000
set_option linter.unusedSimpArgs false
set_option linter.unusedVariables false

set_option maxHeartbeats 1000000 in
theorem iReqText_any (k t h l : Int) (n f : ByteArray) (r c o : Int) (w : World) (hn : n.size ≤ maxLen) (hf : f.size ≤ maxLen) (hk : KwT w) (hp : PowT w) :
    Calls Tryd.prog 8 #[reqV k t h l n f r c o] w fun e w' => e = .returned (.string (reqT ⟨k, t, h, l, n, f, r, c, o⟩)) ∧ Below w.heap.size w w' := by
  cases hr : reqB ⟨k, t, h, l, n, f, r, c, o⟩
  · have HRR : Hid (∀ W : World, Calls Tryd.prog 14 #[reqV k t h l n f r c o] W fun e w' => e = .returned (.bool false) ∧ Below W.heap.size W w') := fun W => by
      have := iReqRight_any k t h l n f r c o W hn hf
      rw [hr] at this
      exact this
    have HR : Hid (reqT ⟨k, t, h, l, n, f, r, c, o⟩ = ⟨#[]⟩) := by rw [Hid, reqT, if_neg (by rw [hr]; simp)]
    generalize reqT ⟨k, t, h, l, n, f, r, c, o⟩ = R at *
    clear hr hk hp hn hf
    go_enter Tryd.func8, Tryd.ntmps8
    go_wp2_with fail
    refine (HRR.out _).mono ?_
    rintro e w1 ⟨rfl, hb1⟩
    go_wp2_with fail
    go_ret
    exact ⟨by rw [HR.out]; rfl, boxR hb1⟩
  · rcases kind_ways' (req_ok hr).kind with rfl | rfl | rfl | rfl | rfl | rfl | rfl | rfl | rfl | rfl
    · exact iReqText_1 t h l n f r c o w hn hf hr hk hp
    · exact iReqText_2 t h l n f r c o w hn hf hr hk hp
    · exact iReqText_3 t h l n f r c o w hn hf hr hk hp
    · exact iReqText_4 t h l n f r c o w hn hf hr hk hp
    · exact iReqText_5 t h l n f r c o w hn hf hr hk hp
    · exact iReqText_6 t h l n f r c o w hn hf hr hk hp
    · exact iReqText_7 t h l n f r c o w hn hf hr hk hp
    · exact iReqText_8 t h l n f r c o w hn hf hr hk hp
    · exact iReqText_9 t h l n f r c o w hn hf hr hk hp
    · exact iReqText_10 t h l n f r c o w hn hf hr hk hp
end Go.Proofs.YtpncnkihfijmaaaDoor
