/-
  Shows: both functions answer 'showT'.
-/
import Derived.Test.YtjgcanhaelabaaaDoorTokMap
import Derived.Test.YtjgcanhaelabaaaDoorTokOkS
import Derived.Test.YtjgcanhaelabaaaDoorBlocks
namespace Go.Proofs.YtjgcanhaelabaaaDoor
open Go.ChangeShapes Go.WideShapes Go.ChangeAt Go.RowKit Go.ChangeMaps Go.Maps
set_option maxRecDepth 10000
set_option linter.unusedSimpArgs false
set_option linter.unusedVariables false

def showR (l : List TK) (no now : Int) : TK := if now > (findNo l no).t then tk0 else findNo l no
def showT (l : List TK) (no now : Int) : TK := if toksOkB l = true then showR l no now else tk0
theorem showR_hit {l : List TK} {no now : Int} {x : TK} (hp : l.Pairwise (fun a b => a.n < b.n)) (hx : x ∈ l) (hn : x.n = no) (ht : now ≤ x.t) : showR l no now = x := by
  subst hn
  rw [showR, findNo_mem hp hx, if_neg (by omega)]
theorem showR_none {l : List TK} {no now : Int} (hp : l.Pairwise (fun a b => a.n < b.n)) (h : ∀ x ∈ l, ¬ (x.n = no ∧ now ≤ x.t)) : showR l no now = tk0 := by
  by_cases hx : ∃ x ∈ l, x.n = no
  · obtain ⟨x, hx, rfl⟩ := hx
    have := h x hx
    rw [showR, findNo_mem hp hx, if_pos (by simp at this; omega)]
  · rw [showR, findNo_none (fun x hx' he => hx ⟨x, hx', he⟩)]
    split <;> rfl

set_option maxHeartbeats 1000000 in
theorem l04Shows_any (l : List TK) (A : Option Addr) (cap : Nat) (no now : Int) (w : World) (hl : Lies w w.heap.size 4 A l.length (toksC l)) (hm : l.length ≤ 1099511627) (ho : toksOkB l = true) :
    Calls Tryd.prog 39 #[.slice A l.length cap, .int .i64 no, .int .i64 now] w fun e w' => e = .returned (tkV (showR l no now)) ∧ Below w.heap.size w w' := by
  have hp := toks_pair ho
  have HH : Hid (∀ (k : Nat) (x : TK), l[k]? = some x → x.n = no → now ≤ x.t → showR l no now = x) := fun k x hx h1 h2 => showR_hit hp (List.mem_of_getElem? hx) h1 h2
  have HN : Hid ((∀ x ∈ l, ¬ (x.n = no ∧ now ≤ x.t)) → showR l no now = tk0) := fun h => showR_none hp h
  generalize showR l no now = R at *
  clear hp ho
  go_enter Tryd.func39, Tryd.ntmps39
  go_wp2
  go_loopw [7] (fun i wr => ∃ k : Nat, k ≤ l.length ∧ i = .int .i64 k ∧ Hid (∀ x ∈ l.take k, ¬ (x.n = no ∧ now ≤ x.t)) ∧ wr = w.alloc (.cells #[.int .i64 0, .int .i64 0, .int .i64 0, .int .i64 0] 39)) (fun i _ => l.length - (intOf i).toNat)
  case atStart => exact ⟨0, Nat.zero_le _, rfl, fun x hx => by simp at hx, rfl⟩
  case round =>
    obtain ⟨k, hk, rfl, HA, rfl⟩ := hrel
    have hB : Below w.heap.size w (w.alloc (.cells #[.int .i64 0, .int .i64 0, .int .i64 0, .int .i64 0] 39)) := (Below.refl _ w).alloc (Nat.le_refl _) _
    by_cases hlt : k < l.length
    · obtain ⟨b, off, x, rfl, hb, hx, c0, c1, c2, c3⟩ := (hl.below hB).tok hlt
      have HS : Hid (¬ (x.n = no ∧ now ≤ x.t) → ∀ y ∈ l.take (k + 1), ¬ (y.n = no ∧ now ≤ y.t)) := fun h y hy => by
        rw [List.take_add_one, hx] at hy
        rcases List.mem_append.1 hy with hy | hy
        · exact HA.out y hy
        · simp at hy
          subst hy
          exact h
      have HX := Lib.hid (HH.out k x hx)
      obtain ⟨xn, xh, xr, xt⟩ := x
      dsimp only at *
      clear hx hl HH
      by_cases h1 : xn = no
      · subst h1
        by_cases h2 : now ≤ xt
        · have HR := Lib.hid (HX.out rfl h2)
          go_wp2_with fail
          refine bodyPost_ret (v := tkV R) (by simp [results, Tryd.results39, go_sem, HR.out]) rfl ?_
          exact ⟨rfl, by go_grown⟩
        · have HO := Lib.hid (HS.out (fun h => h2 h.2))
          go_wp2_with fail
          go_roundw
          case rel => exact ⟨k + 1, by omega, by go_num, HO, trivial⟩
          case measure => simp [intOf]; omega
      · have h1' : (xn == no) = false := beq_eq_false_iff_ne.2 h1
        have HO := Lib.hid (HS.out (fun h => h1 h.1))
        go_wp2_with fail
        go_roundw
        case rel => exact ⟨k + 1, by omega, by go_num, HO, trivial⟩
        case measure => simp [intOf]; omega
    · obtain rfl : k = l.length := by omega
      have HE := HA.out
      rw [List.take_length] at HE
      have HR := Lib.hid (HN.out HE)
      clear hl HE HA
      go_wp2_with fail
      refine bodyPost_ret (v := tkV R) (by simp [results, Tryd.results39, go_sem, HR.out]) rfl ?_
      exact ⟨rfl, by go_grown⟩

set_option maxHeartbeats 1000000 in
theorem sShows_any (l : List TK) (A : Option Addr) (cap : Nat) (no now : Int) (w : World) (hl : Lies w w.heap.size 4 A l.length (toksC l)) (hm : l.length ≤ 1099511627) :
    Calls Tryd.prog 18 #[.slice A l.length cap, .int .i64 no, .int .i64 now] w fun e w' => e = .returned (tkV (showT l no now)) ∧ Below w.heap.size w w' := by
  have HO : Hid (∀ W : World, Below w.heap.size w W → Calls Tryd.prog 20 #[.slice A l.length cap] W fun e w' => e = .returned (.bool (toksOkB l)) ∧ Below W.heap.size W w') := fun W hW => sTokensRight_any l A cap W (hl.on hW) hm
  cases ho : toksOkB l
  · rw [ho] at HO
    have HR : Hid (showT l no now = tk0) := by rw [Hid, showT, if_neg (by rw [ho]; simp)]
    clear hl ho
    go_enter Tryd.func18, Tryd.ntmps18
    go_wp2_with fail
    refine (HO.out _ (by go_grown)).mono ?_
    rintro e w1 ⟨rfl, hb1⟩
    have X1 := (Block.new w #[.int .i64 0, .int .i64 0, .int .i64 0, .int .i64 0] 39).on hb1
    have hB : Below w.heap.size w w1 := ((Below.refl _ w).alloc (Nat.le_refl _) _).trans (hb1.mono (by simp))
    have q1 := X1.cell
    have f1 := X1.free
    clear hb1
    go_wp2_with fail
    refine bodyPost_ret (v := tkV (showT l no now)) (by simp [results, Tryd.results18, go_sem, HR.out, q1, f1, X1.lt, Nat.ne_of_lt X1.lt]) rfl ?_
    exact ⟨rfl, by go_grown⟩
  · have HS : Hid (∀ W : World, Below w.heap.size w W → Calls Tryd.prog 39 #[.slice A l.length cap, .int .i64 no, .int .i64 now] W fun e w' => e = .returned (tkV (showR l no now)) ∧ Below W.heap.size W w') := fun W hW => l04Shows_any l A cap no now W (hl.on hW) hm ho
    rw [ho] at HO
    have HR : Hid (showT l no now = showR l no now) := by rw [Hid, showT, if_pos ho]
    clear hl ho
    go_enter Tryd.func18, Tryd.ntmps18
    go_wp2_with fail
    refine (HO.out _ (by go_grown)).mono ?_
    rintro e w1 ⟨rfl, hb1⟩
    have X1 := (Block.new w #[.int .i64 0, .int .i64 0, .int .i64 0, .int .i64 0] 39).on hb1
    have hB : Below w.heap.size w w1 := ((Below.refl _ w).alloc (Nat.le_refl _) _).trans (hb1.mono (by simp))
    clear hb1
    go_wp2_with fail
    refine (HS.out _ hB).mono ?_
    rintro e w2 ⟨rfl, hb2⟩
    have X2 := X1.on hb2
    have hB2 := hB.trans (hb2.mono hB.size)
    have q1 := X2.cell
    have f1 := X2.free
    clear hb2 hB X1
    go_wp2_with fail
    refine bodyPost_ret (v := tkV (showT l no now)) (by simp [results, Tryd.results18, go_sem, HR.out, q1, f1, X2.lt, Nat.ne_of_lt X2.lt]) rfl ?_
    exact ⟨rfl, by go_grown⟩

set_option maxHeartbeats 1000000 in
theorem iShows_any (l : List TK) (A : Option Addr) (cap : Nat) (no now : Int) (w : World) (hl : Lies w w.heap.size 4 A l.length (toksC l)) (hm : l.length ≤ 1099511627) (hw : (Lit.int .i64 no).wf = true) :
    Calls Tryd.prog 17 #[.slice A l.length cap, .int .i64 no, .int .i64 now] w fun e w' => e = .returned (tkV (showT l no now)) ∧ Below w.heap.size w w' := by
  have HO : Hid (∀ W : World, Below w.heap.size w W → Calls Tryd.prog 19 #[.slice A l.length cap] W fun e w' => e = .returned (.bool (toksOkB l)) ∧ Below W.heap.size W w') := fun W hW => iTokensRight_any l A cap W (hl.on hW) hm
  cases ho : toksOkB l
  · rw [ho] at HO
    have HR : Hid (showT l no now = tk0) := by rw [Hid, showT, if_neg (by rw [ho]; simp)]
    clear hl ho hw
    go_enter Tryd.func17, Tryd.ntmps17
    go_wp2_with fail
    refine (HO.out _ (by go_grown)).mono ?_
    rintro e w1 ⟨rfl, hb1⟩
    have X1 := (Block.new w #[.int .i64 0, .int .i64 0, .int .i64 0, .int .i64 0] 39).on hb1
    have hB : Below w.heap.size w w1 := ((Below.refl _ w).alloc (Nat.le_refl _) _).trans (hb1.mono (by simp))
    have q1 := X1.cell
    have f1 := X1.free
    clear hb1
    go_wp2_with fail
    refine bodyPost_ret (v := tkV (showT l no now)) (by simp [results, Tryd.results17, go_sem, HR.out, q1, f1, X1.lt, Nat.ne_of_lt X1.lt]) rfl ?_
    exact ⟨rfl, by go_grown⟩
  · have HS : Hid (∀ W : World, Below w.heap.size w W → Calls Tryd.prog 35 #[.slice A l.length cap] W fun e w' => (∃ b, e = .returned (.map (some b)) ∧ (Instr.lookup 66 (.map (some b)) (.int .i64 no) false).run Tryd.prog w' = .ok (tkV (findNo l no)) w') ∧ Below W.heap.size W w') := fun W hW => tokensByNo_look l A cap no W (hl.on hW) ho hw
    rw [ho] at HO
    have HR : Hid (showT l no now = if now > (findNo l no).t then tk0 else findNo l no) := by rw [Hid, showT, if_pos ho]; rfl
    clear hl ho hw
    generalize findNo l no = X at *
    obtain ⟨xn, xh, xr, xt⟩ := X
    dsimp only at *
    generalize showT l no now = R at *
    by_cases ht : now > xt
    · rw [if_pos ht] at HR
      go_enter Tryd.func17, Tryd.ntmps17
      go_wp2_with fail
      refine (HO.out _ (by go_grown)).mono ?_
      rintro e w1 ⟨rfl, hb1⟩
      have X1 := (Block.new w #[.int .i64 0, .int .i64 0, .int .i64 0, .int .i64 0] 39).on hb1
      have hB : Below w.heap.size w w1 := ((Below.refl _ w).alloc (Nat.le_refl _) _).trans (hb1.mono (by simp))
      clear hb1
      go_wp2_with fail
      refine (HS.out _ hB).mono ?_
      rintro e w2 ⟨⟨b, rfl, hlk⟩, hb2⟩
      have X2 := X1.on hb2
      have hB2 := hB.trans (hb2.mono hB.size)
      have q1 := X2.cell
      have f1 := X2.free
      have hlt := X2.lt
      clear hb2 hB X1
      go_wp2_with fail
      refine bodyPost_ret (v := tkV R) (by simp [results, Tryd.results17, go_sem, HR.out, q1, f1, hlt, Nat.ne_of_lt hlt]) rfl ?_
      exact ⟨rfl, by go_grown⟩
    · rw [if_neg ht] at HR
      go_enter Tryd.func17, Tryd.ntmps17
      go_wp2_with fail
      refine (HO.out _ (by go_grown)).mono ?_
      rintro e w1 ⟨rfl, hb1⟩
      have X1 := (Block.new w #[.int .i64 0, .int .i64 0, .int .i64 0, .int .i64 0] 39).on hb1
      have hB : Below w.heap.size w w1 := ((Below.refl _ w).alloc (Nat.le_refl _) _).trans (hb1.mono (by simp))
      clear hb1
      go_wp2_with fail
      refine (HS.out _ hB).mono ?_
      rintro e w2 ⟨⟨b, rfl, hlk⟩, hb2⟩
      have X2 := X1.on hb2
      have hB2 := hB.trans (hb2.mono hB.size)
      have q1 := X2.cell
      have f1 := X2.free
      have hlt := X2.lt
      clear hb2 hB X1
      go_wp2_with fail
      refine bodyPost_ret (v := tkV R) (by simp [results, Tryd.results17, go_sem, HR.out, q1, f1, hlt, Nat.ne_of_lt hlt]) rfl ?_
      exact ⟨rfl, by go_grown⟩
end Go.Proofs.YtjgcanhaelabaaaDoor
