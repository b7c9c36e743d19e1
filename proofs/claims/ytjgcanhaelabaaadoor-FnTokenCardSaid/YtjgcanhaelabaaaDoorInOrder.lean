/-
  impl.inOrder: a map of tokens, in order.
-/
import Derived.Test.YtjgcanhaelabaaaDoorTokMap2
import Derived.Test.YtjgcanhaelabaaaDoorShelfK
import Derived.Deep.AppendLies
namespace Go.Proofs.YtjgcanhaelabaaaDoor
open Go.ChangeShapes Go.WideShapes Go.ChangeAt Go.RowKit Go.ChangeMaps Go.Maps
set_option maxRecDepth 10000
set_option linter.unusedSimpArgs false
set_option linter.unusedVariables false

theorem sortsK (m : Nat) : AnyZI.SortsIn Tryd.prog Tryd.sortedA_ren Fence.wide m :=
  ⟨fun blk off cap ss W hH hblk hsz => callsIn_wide.2 (AnyM.slices_Sort_int Tryd.sortA blk off cap ss W hH hblk hsz),
   fun p cap W => callsIn_wide.2 (AnyM.slices_Sort_int_none Tryd.sortA p cap W)⟩
theorem keysK (mb : Option Nat) (W : World) : Calls Tryd.prog 59 #[.map mb] W fun e w' => e = .returned (.func (.func 72) #[] #[.pointer (some ⟨W.heap.size, 0, none⟩)]) ∧ w' = W.alloc (.cells #[.map mb] 66) :=
  (callsIn_wide (n := 6)).1 (AnyZI.keys_in Tryd.keysA Fence.wide 6 trivial rfl mb W)
set_option maxHeartbeats 1000000 in
theorem sortedK {H : Type} (b nn : Nat) (D0 : DataW H) (R : Value → Option (DataW H × List MemPlace)) (w : World) (hown : w.ownsMap Tryd.prog 2 R b nn D0) (hmax : Maps.size D0 ≤ maxLen) (hbytes : Maps.size D0 * 8 ≤ 140737488355328) :
    Calls Tryd.prog 58 #[.func (.func 72) #[] #[.pointer (some ⟨w.heap.size, 0, none⟩)]] (w.alloc (.cells #[.map (some b)] 66)) fun e w' => ∃ (v : Value) (ss : List Int), e = .returned v ∧ ss.Perm (intKeys D0) ∧
      w'.ownsRow w.heap.size 2 1 v ss.length ((ss.mergeSort (fun x y => decide (x ≤ y))).map encZ) ∧ Below w.heap.size w w' := by
  have hbl := hown.lt
  have hseq : SeqGives Fence.wide 2 Tryd.prog 72 #[.pointer (some ⟨w.heap.size, 0, none⟩)] encZ (fun ss => ss.Perm (intKeys D0)) (Maps.size D0) (w.alloc (.cells #[.map (some b)] 66)) :=
    AnyZI.keys_gives (ρ := Tryd.keysA_ren) { Tryd.keysA with } Fence.wide _ trivial rfl (by omega) w.heap.size b nn D0 _ (by simp) (by simp) (by
      obtain ⟨es, clock, hb, Ft, hs, hD⟩ := hown
      exact ⟨es, clock, (Below.heap_alloc _ _ b hbl).trans hb, Ft, hs, hD⟩)
  have cS := AnyZI.sorted_in Tryd.sortedA Fence.wide 5 trivial trivial trivial trivial rfl (by omega) (sortsK _) (enters_of Tryd.func71 (by kernel_rfl) rfl) 72 #[.pointer (some ⟨w.heap.size, 0, none⟩)] trivial (enters_of Tryd.func72 (by kernel_rfl) rfl) _ _ hmax hbytes _ hseq
  refine ((callsIn_wide (n := 5)).1 cS).mono ?_
  rintro e w' ⟨v, ss, rfl, hS, hrow, hnil, hb⟩
  exact ⟨v, ss, rfl, hS, ownsRow_base hrow (by simp), ((Below.refl _ w).alloc (Nat.le_refl _) _).trans (hb.mono (by simp))⟩

/-- How far inOrder has come. -/
def OrdRel (l : List TK) (w w1 w2 : World) (vK : Value) (v i : Value) (wr : World) : Prop :=
  ∃ (k : Nat) (A : Option Addr) (c : Nat), k ≤ l.length ∧ i = .int .i64 k ∧ v = .slice A k c ∧ wr.ownsRow w.heap.size 39 4 (.slice A k c) k (toksC (l.take k)) ∧
    wr.ownsRow w1.heap.size 2 1 vK l.length ((l.map (·.n)).map encZ) ∧ Below w.heap.size w wr ∧ w2.heap.size ≤ wr.heap.size ∧ ∀ g, (Value.slice A k c).ownBlock = some g → g < w1.heap.size ∨ w2.heap.size ≤ g

set_option maxHeartbeats 4000000 in
theorem inOrder_any (l : List TK) (b nn : Nat) (w : World) (hown : w.ownsMap Tryd.prog 2 tokRd b nn (mapD l)) (hp : l.Pairwise (fun a b => a.n < b.n)) (hn : ∀ x ∈ l, 1 ≤ x.n ∧ x.n ≤ 999) (hm : l.length ≤ 1000) :
    Calls Tryd.prog 36 #[.map (some b)] w fun e w' => (∃ (A : Option Addr) (c : Nat), e = .returned (.slice A l.length c) ∧ w'.ownsRow w.heap.size 39 4 (.slice A l.length c) l.length (toksC l)) ∧ Below w.heap.size w w' := by
  have hsz := mapD_size l
  have HMP : Hid (∀ W : World, Below w.heap.size w W → W.ownsMap Tryd.prog 2 tokRd b nn (mapD l)) := fun W hW => hown.kept (grown_of_below hW none) (by simp)
  have HLK : Hid (∀ (W : World) (k : Nat) (x : TK), Below w.heap.size w W → l[k]? = some x → (Instr.lookup 66 (.map (some b)) (.int .i64 x.n) false).run Tryd.prog W = .ok (tkV x) W) := fun W k x hW hx => by
    obtain ⟨v, ps, hrun, hv⟩ := (hown.kept (grown_of_below hW none) (by simp)).lookup tokLaw Tryd.underlying66 (zeroTok W) (tokRd_mk tk0) (keyOf_no (wf_small (hn x (List.mem_of_getElem? hx))))
    rw [mapD_at, findNo_mem hp (List.mem_of_getElem? hx)] at hv
    rw [tokRd_inv hv] at hrun
    exact hrun
  have HSK : Hid (∀ W : World, Below w.heap.size w W → Calls Tryd.prog 58 #[.func (.func 72) #[] #[.pointer (some ⟨W.heap.size, 0, none⟩)]] (W.alloc (.cells #[.map (some b)] 66)) fun e w' => (∃ (AK : Option Addr) (cK : Nat), e = .returned (.slice AK l.length cK) ∧
      w'.ownsRow W.heap.size 2 1 (.slice AK l.length cK) l.length ((l.map (·.n)).map encZ)) ∧ Below W.heap.size W w') := fun W hW =>
    (sortedK b nn (mapD l) tokRd W (hown.kept (grown_of_below hW none) (by simp)) (by rw [hsz]; unfold maxLen; omega) (by rw [hsz]; omega)).mono fun e w' ⟨v, ss, h1, h2, h3, h4⟩ => by
      have hl : ss.length = l.length := by rw [h2.length_eq, keys_mapD, List.length_map]
      rw [sorted_keys hp h2, hl] at h3
      obtain ⟨AK, cK, rfl, -, -⟩ := own_form h3
      exact ⟨⟨AK, cK, h1, h3⟩, h4⟩
  have HKY : Hid (∀ W : World, Calls Tryd.prog 59 #[.map (some b)] W fun e w' => e = .returned (.func (.func 72) #[] #[.pointer (some ⟨W.heap.size, 0, none⟩)]) ∧ w' = W.alloc (.cells #[.map (some b)] 66)) := fun W => keysK (some b) W
  obtain ⟨i0, hi0, hz0, hz1, hz2⟩ := info_parts info_tok
  have HSZ := Lib.hid hsz
  have HO := Lib.hid hown
  clear hown hp hn hsz
  go_enter Tryd.func36, Tryd.ntmps36
  go_wp2_with (first
    | (refine wpList_len_own _ rfl _ _ rfl 2 39 Tryd.underlying66 tokRd b nn (mapD l) rfl HO.out ?_; rw [HSZ.out])
    | (refine wpList_make_room Tryd.underlying24 info_tok (by omega) l.length _ rfl rfl rfl (by omega) ?_; intro v0 w1 hown1 hb1; obtain ⟨A1, c1, rfl, -, -⟩ := own_form hown1))
  refine (HKY.out _).mono ?_
  rintro e w1' ⟨rfl, rfl⟩
  go_wp2_with fail
  refine (HSK.out _ hb1).mono ?_
  rintro e w2 ⟨⟨AK, cK, rfl, rK⟩, hb2⟩
  have hB2 := hb1.trans (hb2.mono hb1.size)
  have r2 := ownsRow_below hown1 hb2
  have hA1 : ∀ g, (Value.slice A1 0 c1).ownBlock = some g → g < w1.heap.size ∨ w2.heap.size ≤ g := fun g hg => .inl (hown1.lt g hg).2
  have HKB : Hid (∀ g, (Value.slice AK l.length cK).ownBlock = some g → w1.heap.size ≤ g ∧ g < w2.heap.size) := fun g hg => rK.lt g hg
  clear hb2 hown1
  go_wp2_with fail
  go_loopw [3, 13] (fun v i wr => OrdRel l w w1 w2 (.slice AK l.length cK) v i wr) (fun _ i _ => l.length - (intOf i).toNat)
  case atStart => exact ⟨0, A1, c1, Nat.zero_le _, rfl, rfl, by simpa [toksC] using r2, rK, hB2, Nat.le_refl _, hA1⟩
  case round =>
    obtain ⟨k, A, c, hk, rfl, rfl, hown, rK', hB, hz, hA⟩ := hrel
    clear rK r2 hA1
    by_cases hlt : k < l.length
    · obtain ⟨x, hx⟩ : ∃ x, l[k]? = some x := ⟨_, List.getElem?_eq_getElem hlt⟩
      obtain ⟨gk, ck, hv, hgk1, -, -, hgk2, hcell⟩ := row_at rK' (by omega)
      injection hv with hv1 _ hv2
      subst hv1 hv2
      have c0 := hcell k (.int .i64 x.n) (by simp [hx, encZ])
      have hlk := HLK.out wr k x hB hx
      have HT := Lib.hid (toksC_take_succ hx)
      obtain ⟨xn, xh, xr, xt⟩ := x
      dsimp only [tkV] at *
      have hbw : w.heap.size ≤ wr.heap.size := hB.size
      clear hx hcell
      go_wp2_with (at_builtin; refine _root_.Go.wpList_append_lies (wr.alloc (.cells #[.int .i64 xn, .int .i64 xh, .int .i64 xr, .int .i64 xt] 39)) rfl _ _ 24 rfl w.heap.size 39 i0 _ 4 32 Tryd.underlying24 hi0 hz0 hz1 hz2 rfl (by decide) _ k _ rfl (hown.alloc _) ⟨wr.heap.size, 0, none⟩ 1 1 [.int .i64 xn, .int .i64 xh, .int .i64 xr, .int .i64 xt] rfl rfl (World.news_of_block (heap_alloc_new wr _)) (fun u hu => toksC_one [⟨xn, xh, xr, xt⟩] u (by simpa [toksC, tokC] using hu)) (by omega) (by unfold maxLen; omega) (by omega) (by simp; omega) (wr.heap.size + 1) (by simp) ?_; intro g3 c3 w3 hown3 hg3 hat3 hlt3)
      go_roundw
      case rel =>
        refine ⟨k + 1, some ⟨g3, 0, none⟩, c3, by omega, by go_num, rfl, by rw [HT.out]; exact hown3, own_grown (rK'.alloc _) hg3 (fun g hg e => ?_), (hB.alloc hbw _).grown hg3 (by simp; omega) (fun g e => (hown.lt g e).1), by have := hg3.size; simp at this; omega, fun g hg => ?_⟩
        · have h1 := hA g e
          have h2 := HKB.out g hg
          omega
        · have hgg : g3 = g := by simpa [Value.ownBlock] using hg
          subst hgg
          rcases hat3 with h | h
          · exact hA _ h
          · exact .inr (by omega)
      case measure => simp [intOf]; omega
    · obtain rfl : k = l.length := by omega
      rw [List.take_length] at hown
      go_wp2_with fail
      go_ret
      exact ⟨⟨A, c, rfl, hown⟩, hB⟩
end Go.Proofs.YtjgcanhaelabaaaDoor
