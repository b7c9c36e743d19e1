/-
  The words of a booking's text, and what either side reads of them: plain mathematics. impl.numberOf: of digits that number, of any other text some number. strings.Split, Cut, CutPrefix as impl calls them; what they ask of the world is kept. A booking in a block of the call's own, its lists rows of the call's own. pnrOf: its world between two steps. s[k:] of a list of texts.
-/
import Derived.Test.YtpncnkihfijmaaaGreatDoorM3
import Derived.Test.YtpncnkihfijmaaaGreatDoorPartsZ
import Derived.Test.YtpncnkihfijmaaaGreatDoorM12
import Derived.Test.YtpncnkihfijmaaaGreatDoorM1
import Derived.ChangeAgain
import Derived.WalkSmall
import Derived.Shelf.Vars
import Derived.Lib.BufferWrite
namespace Go.Proofs.YtpncnkihfijmaaaGreatDoor
open Go.ChangeShapes Go.WideShapes Go.ChangeAt Go.RowKit Go.ChangeMaps
set_option maxRecDepth 10000
set_option linter.unusedSimpArgs false
set_option linter.unusedVariables false

/-- All bytes are those of a word. -/
def WdAll (s : ByteArray) : Prop := ∀ c ∈ s.data.toList, wdOk c = true
theorem WdAll.of_word {s : ByteArray} (h : wordB s = true) : WdAll s := by
  intro c hc
  obtain ⟨i, hi, rfl⟩ := List.getElem_of_mem hc
  simp only [wordB, decide_eq_true_eq] at h
  exact h.2.2 i (by simpa using hi)
theorem wdOk_dig {n : Nat} (h : n < 10) : wdOk (UInt8.ofNat (48 + n)) = true := by
  rw [wdOk, ofNat_toNat (by omega), digB_mk (by omega) (by omega)]
  simp
theorem wdOk_let {n : Nat} (h : n < 26) : wdOk (UInt8.ofNat (97 + n)) = true := by
  rw [wdOk, ofNat_toNat (by omega), letB_mk (by omega) (by omega)]
  rfl
theorem dgT_data {n : Int} (h0 : 0 ≤ n) (h1 : n < 10) : (dgT n).data.toList = [UInt8.ofNat (48 + n.toNat)] := by
  rw [dgT, Lib.decDigits_one (by omega)]
theorem WdAll.dg {n : Int} (h0 : 0 ≤ n) (h1 : n < 10) : WdAll (dgT n) := by
  intro c hc
  rw [dgT_data h0 h1] at hc
  obtain rfl : c = UInt8.ofNat (48 + n.toNat) := by simpa using hc
  exact wdOk_dig (by omega)
theorem dec_wd {m : Nat} (h : m < 100) : ∀ c ∈ Lib.decDigits m, wdOk c = true := by
  intro c hc
  by_cases hm : m < 10
  · rw [Lib.decDigits_one hm] at hc
    obtain rfl : c = UInt8.ofNat (48 + m) := by simpa using hc
    exact wdOk_dig hm
  · rw [Lib.decDigits_two (by omega) h] at hc
    simp only [List.mem_cons, List.not_mem_nil, or_false] at hc
    rcases hc with rfl | rfl
    · exact wdOk_dig (by omega)
    · exact wdOk_dig (by omega)
theorem seatT_data {r c : Int} (h : seatB r c = true) : (seatT r c).data.toList = Lib.decDigits r.toNat ++ [UInt8.ofNat (97 + c.toNat)] := by
  rw [seatT, seatTextL, if_pos h]
theorem WdAll.seat {r c : Int} (h : seatB r c = true) : WdAll (seatT r c) := by
  obtain ⟨⟨r1, r2⟩, c1, c2⟩ := seatB_parts h
  intro x hx
  rw [seatT_data h, List.mem_append] at hx
  rcases hx with hx | hx
  · exact dec_wd (by omega) x hx
  · obtain rfl : x = UInt8.ofNat (97 + c.toNat) := by simpa using hx
    exact wdOk_let (by omega)
theorem WdAll.not {s : ByteArray} (h : WdAll s) {c : UInt8} (hc : wdOk c = false) : c ∉ s.data.toList := fun hm => by rw [h c hm] at hc; cases hc

def plusW (s : ByteArray) : ByteArray := plA ++ s
def homeW (h l : Int) : ByteArray := (dgT h ++ dotA) ++ dgT l
def holdW (x : HD) : ByteArray := (x.f ++ colA) ++ seatT x.r x.c
abbrev ofW : ByteArray := ⟨#[111, 102]⟩
def headW (p : PD) : List ByteArray := [homeW p.home p.loc, ofW, dgT p.owner, if p.live then lvA else gnA]
def offW (f : Int) : List ByteArray := if f = 0 then [] else [twA, dgT f]
/-- The words of a booking's text. -/
def wordsP (p : PD) : List ByteArray := headW p ++ (offW p.offer ++ (p.names.map plusW ++ p.holds.map holdW))

def stepJ (t : List UInt8) (x : List UInt8) : List UInt8 := t ++ 32 :: x
theorem namesD : ∀ (l : List ByteArray) (t : ByteArray), (l.foldl nameT t).data.toList = ((l.map plusW).map (·.data.toList)).foldl stepJ t.data.toList
  | [], t => rfl
  | s :: l, t => by
    have e : (nameT t s).data.toList = stepJ t.data.toList (plusW s).data.toList := by simp [nameT, plusW, stepJ]
    rw [List.foldl_cons, namesD l (nameT t s), e]
    rfl
theorem holdsD : ∀ (l : List HD) (t : ByteArray), (l.foldl holdT t).data.toList = ((l.map holdW).map (·.data.toList)).foldl stepJ t.data.toList
  | [], t => rfl
  | s :: l, t => by
    have e : (holdT t s).data.toList = stepJ t.data.toList (holdW s).data.toList := by simp [holdT, holdW, stepJ]
    rw [List.foldl_cons, holdsD l (holdT t s), e]
    rfl
theorem offD (f : Int) (t : ByteArray) : (offT f t).data.toList = ((offW f).map (·.data.toList)).foldl stepJ t.data.toList := by
  unfold offT offW
  split
  · rfl
  · simp [stepJ]
theorem headD (p : PD) : (liveT p.live (headT p.home p.loc p.owner)).data.toList = joinL 32 ((headW p).map (·.data.toList)) := by
  cases hb : p.live <;> simp [liveT, headT, headW, homeW, joinL, hb]
theorem textT_join {p : PD} (h : rightB p = true) : (textT p).data.toList = joinL 32 ((wordsP p).map (·.data.toList)) := by
  rw [textT, if_pos h, holdsD, namesD, offD, headD, wordsP, List.map_append, List.map_append, List.map_append, joinL_more 32 _ _ (by simp [headW]), List.foldl_append, List.foldl_append]
  rfl
theorem wordsP_ne (p : PD) : wordsP p ≠ [] := by simp [wordsP, headW]
theorem wordsP_free {p : PD} (h : rightB p = true) : ∀ x ∈ wordsP p, (32 : UInt8) ∉ x.data.toList := by
  obtain ⟨⟨⟨a1, a2⟩, ⟨b1, b2⟩, c1, c2⟩, ⟨-, hn⟩, ⟨-, hh⟩, f1, f2⟩ := right_parts h
  have hd : ∀ n : Int, 0 ≤ n → n < 10 → (32 : UInt8) ∉ (dgT n).data.toList := fun n h0 h1 => (WdAll.dg h0 h1).not rfl
  have k1 := hd p.home (by omega) (by omega)
  have k2 := hd p.loc (by omega) (by omega)
  have k3 := hd p.owner (by omega) (by omega)
  have k4 := hd p.offer (by omega) (by omega)
  intro x hx
  simp only [wordsP, List.mem_append, List.mem_map] at hx
  rcases hx with hx | hx | ⟨s, hs, rfl⟩ | ⟨y, hy, rfl⟩
  · simp only [headW, List.mem_cons, List.not_mem_nil, or_false] at hx
    rcases hx with rfl | rfl | rfl | rfl
    · simp [homeW]; exact ⟨by simpa using k1, by simpa using k2⟩
    · simp
    · exact k3
    · cases p.live <;> simp
  · unfold offW at hx
    split at hx
    · cases hx
    · simp only [List.mem_cons, List.not_mem_nil, or_false] at hx
      rcases hx with rfl | rfl
      · simp
      · exact k4
  · have := (WdAll.of_word (hn s hs)).not (c := 32) rfl
    simpa [plusW] using this
  · have h1 := (WdAll.of_word (hh y hy).1).not (c := 32) rfl
    have h2 := (WdAll.seat (hh y hy).2).not (c := 32) rfl
    simp [holdW]
    exact ⟨by simpa using h1, by simpa using h2⟩
/-- Cut at its blanks a booking's text is its words. -/
theorem cut_text {p : PD} (h : rightB p = true) : cutB 32 (textT p) = wordsP p := cutB_join 32 _ _ (wordsP_ne p) (wordsP_free h) (textT_join h)

theorem homeW_data (h l : Int) : (homeW h l).data.toList = (dgT h).data.toList ++ 46 :: (dgT l).data.toList := by simp [homeW]
theorem holdW_data (x : HD) : (holdW x).data.toList = x.f.data.toList ++ 58 :: (seatT x.r x.c).data.toList := by simp [holdW]
theorem plusW_data (s : ByteArray) : (plusW s).data.toList = 43 :: s.data.toList := by simp [plusW]
theorem cut_home {h l : Int} (h0 : 0 ≤ h) (h1 : h < 10) (l0 : 0 ≤ l) (l1 : l < 10) : cutB 46 (homeW h l) = [dgT h, dgT l] := by
  refine cutB_join 46 _ _ (by simp) ?_ (by rw [homeW_data]; rfl)
  intro x hx
  simp only [List.mem_cons, List.not_mem_nil, or_false] at hx
  rcases hx with rfl | rfl
  · exact (WdAll.dg h0 h1).not rfl
  · exact (WdAll.dg l0 l1).not rfl
theorem cut_hold {x : HD} (h : wordB x.f = true) (hs : seatB x.r x.c = true) : cutB 58 (holdW x) = [x.f, seatT x.r x.c] := by
  refine cutB_join 58 _ _ (by simp) ?_ (by rw [holdW_data]; rfl)
  intro y hy
  simp only [List.mem_cons, List.not_mem_nil, or_false] at hy
  rcases hy with rfl | rfl
  · exact (WdAll.of_word h).not rfl
  · exact (WdAll.seat hs).not rfl
theorem numI_dg {n : Int} (h0 : 0 ≤ n) (h1 : n < 10) : numI (dgT n).data.toList = n := by
  rw [dgT]
  have := numI_dec (u := n.toNat) (by omega)
  show numI (Lib.decDigits n.toNat) = n
  rw [this]
  omega
theorem seat_back {r c : Int} (h : seatB r c = true) : seatReadT (seatT r c) = (r, c, 0) := by
  have hs := seatT_size h
  refine seatReadT_yes (by omega) rfl ?_
  have : (seatT r c).data.toList.length = (seatT r c).size := by simp
  rw [seatT_data h] at this
  simp at this
  omega
theorem hold_head {x : HD} (h : wordB x.f = true) : ∃ c l, (holdW x).data.toList = c :: l ∧ c ≠ 43 := by
  rw [holdW_data]
  have h1 := (wordB_len h).1
  have h2 := WdAll.of_word h
  have e : x.f.data.toList.length = x.f.size := by simp
  unfold WdAll at h2
  cases hl : x.f.data.toList with
  | nil => rw [hl] at e; simp at e; omega
  | cons c l =>
    refine ⟨c, _, rfl, fun hc => ?_⟩
    have := h2 c (by rw [hl]; simp)
    rw [hc] at this
    revert this
    decide
theorem plusW_ne_to (s : ByteArray) : plusW s ≠ twA := fun h => by
  have := congrArg (fun b : ByteArray => b.data.toList) h
  simp [plusW] at this
theorem holdW_ne_to (x : HD) : holdW x ≠ twA := fun h => by
  have h1 := congrArg (fun b : ByteArray => b.data.toList) h
  have h2 : (58 : UInt8) ∈ (holdW x).data.toList := by rw [holdW_data]; simp
  dsimp only at h1
  rw [h1] at h2
  simp at h2

/-- What spec reads of one word behind the state. -/
def step1 (p : PD) (w : ByteArray) : PD :=
  if w.data.toList.head? = some 43 then { p with names := p.names ++ [w.extract 1 w.size] }
  else match cutB 58 w with
    | [a, b] => { p with holds := p.holds ++ [⟨a, (seatReadT b).1, (seatReadT b).2.1⟩] }
    | _ => p
/-- .. of all. -/
def fillS : PD → List ByteArray → PD
  | p, [] => p
  | p, [w] => step1 p w
  | p, w :: x :: r => if w = twA then fillS { p with offer := numI x.data.toList } r else fillS (step1 p w) (x :: r)
theorem fillS_cons (p : PD) (w : ByteArray) (r : List ByteArray) (h : w ≠ twA ∨ r = []) : fillS p (w :: r) = fillS (step1 p w) r := by
  cases r with
  | nil => rfl
  | cons x r =>
    rcases h with h | h
    · rw [fillS, if_neg h]
    · cases h
theorem fillS_to (p : PD) (x : ByteArray) (r : List ByteArray) : fillS p (twA :: x :: r) = fillS { p with offer := numI x.data.toList } r := by rw [fillS, if_pos rfl]
theorem step1_plus (p : PD) (s : ByteArray) : step1 p (plusW s) = { p with names := p.names ++ [s] } := by
  have e : (plusW s).extract 1 (plusW s).size = s := by
    apply ba_ext
    rw [ByteArray.data_extract, Array.toList_extract, List.extract_eq_take_drop, plusW_data]
    have : (plusW s).size = s.data.toList.length + 1 := by
      have := congrArg List.length (plusW_data s)
      simpa using this
    rw [this]
    simp only [Nat.add_sub_cancel, List.drop_succ_cons, List.drop_zero]
    exact List.take_of_length_le (Nat.le_refl _)
  rw [step1, if_pos (by rw [plusW_data]; rfl), e]
theorem step1_hold (p : PD) {x : HD} (h : wordB x.f = true) (hs : seatB x.r x.c = true) : step1 p (holdW x) = { p with holds := p.holds ++ [x] } := by
  obtain ⟨c, l, e, hc⟩ := hold_head h
  rw [step1, if_neg (by rw [e]; simpa using hc), cut_hold h hs]
  dsimp only
  rw [seat_back hs]
theorem fillS_holds : ∀ (hs : List HD) (p : PD), (∀ x ∈ hs, wordB x.f = true ∧ seatB x.r x.c = true) → fillS p (hs.map holdW) = { p with holds := p.holds ++ hs }
  | [], p, _ => by simp [fillS]
  | x :: hs, p, h => by
    have hx := h x List.mem_cons_self
    rw [List.map_cons, fillS_cons _ _ _ (.inl (holdW_ne_to x)), step1_hold p hx.1 hx.2, fillS_holds hs _ (fun y hy => h y (List.mem_cons_of_mem _ hy))]
    simp
theorem fillS_names : ∀ (ns : List ByteArray) (p : PD) (r : List ByteArray), fillS p (ns.map plusW ++ r) = fillS { p with names := p.names ++ ns } r
  | [], p, r => by simp
  | s :: ns, p, r => by
    rw [List.map_cons, List.cons_append, fillS_cons _ _ _ (.inl (plusW_ne_to s)), step1_plus, fillS_names ns]
    simp
theorem fillS_words {p q : PD} (h : rightB p = true) (h0 : q.offer = 0) : fillS q (offW p.offer ++ (p.names.map plusW ++ p.holds.map holdW)) = ⟨q.home, q.loc, q.owner, q.names ++ p.names, q.holds ++ p.holds, q.live, p.offer⟩ := by
  obtain ⟨-, -, ⟨-, hh⟩, f1, f2⟩ := right_parts h
  unfold offW
  split
  · rename_i h1
    rw [List.nil_append, fillS_names, fillS_holds _ _ hh, h1, ← h0]
  · rw [List.cons_append, List.cons_append, List.nil_append, fillS_to, fillS_names, fillS_holds _ _ hh, numI_dg f1 (by omega)]

/-- What spec reads of some words. -/
def parseS (ws : List ByteArray) : PD :=
  match ws with
  | a :: _ :: c :: d :: r => fillS ⟨numI ((cutB 46 a).headD ⟨#[]⟩).data.toList, (match cutB 46 a with | [_, l] => numI l.data.toList | _ => 0), numI c.data.toList, [], [], decide (d = lvA), 0⟩ r
  | _ => ⟨0, 0, 0, [], [], false, 0⟩
theorem parseS_text {p : PD} (h : rightB p = true) : parseS (cutB 32 (textT p)) = p := by
  obtain ⟨⟨⟨a1, a2⟩, ⟨b1, b2⟩, c1, c2⟩, -, -, -⟩ := right_parts h
  rw [cut_text h, wordsP, headW]
  show fillS ⟨_, _, _, _, _, _, _⟩ (offW p.offer ++ (p.names.map plusW ++ p.holds.map holdW)) = p
  rw [cut_home (by omega) (by omega) (by omega) (by omega)]
  dsimp only [List.headD]
  rw [numI_dg (by omega) (by omega), numI_dg (by omega) (by omega), numI_dg (by omega) (by omega), fillS_words h rfl]
  obtain ⟨ph, pl, po, pn, pk, pb, pf⟩ := p
  cases pb <;> simp

/-- What impl reads of one word behind the offer. -/
def stepI (p : PD) (w : ByteArray) : PD :=
  if Lib.hasPrefix w.data.toList [43] = true then { p with names := p.names ++ [⟨(Lib.trimPrefix w.data.toList [43]).toArray⟩] }
  else { p with holds := p.holds ++ [⟨⟨(Lib.cut w.data.toList [58]).1.toArray⟩, (seatReadT ⟨(Lib.cut w.data.toList [58]).2.1.toArray⟩).1, (seatReadT ⟨(Lib.cut w.data.toList [58]).2.1.toArray⟩).2.1⟩] }
theorem stepI_plus (p : PD) (s : ByteArray) : stepI p (plusW s) = { p with names := p.names ++ [s] } := by
  have h1 : Lib.hasPrefix (plusW s).data.toList [43] = true := by rw [plusW_data]; simp [Lib.hasPrefix, List.isPrefixOf]
  rw [stepI, if_pos h1, Lib.trimPrefix, if_pos h1, plusW_data]
  rfl
theorem stepI_hold (p : PD) {x : HD} (h : wordB x.f = true) (hs : seatB x.r x.c = true) : stepI p (holdW x) = { p with holds := p.holds ++ [x] } := by
  obtain ⟨c, l, e, hc⟩ := hold_head h
  have h1 : ¬ Lib.hasPrefix (holdW x).data.toList [43] = true := by rw [e]; simp [Lib.hasPrefix, List.isPrefixOf]; exact fun hh => hc hh.symm
  have h2 : Lib.cut (holdW x).data.toList [58] = (x.f.data.toList, (seatT x.r x.c).data.toList, true) := by
    rw [holdW_data]
    exact cut_app 58 _ _ ((WdAll.of_word h).not rfl)
  have h3 : (⟨(seatT x.r x.c).data.toList.toArray⟩ : ByteArray) = seatT x.r x.c := Lib.mk_data _
  have h4 : (⟨x.f.data.toList.toArray⟩ : ByteArray) = x.f := Lib.mk_data _
  rw [stepI, if_neg h1, h2]
  dsimp only
  rw [h3, h4, seat_back hs]
theorem foldI_words {p q : PD} (h : rightB p = true) : (p.names.map plusW ++ p.holds.map holdW).foldl stepI q = { q with names := q.names ++ p.names, holds := q.holds ++ p.holds } := by
  obtain ⟨-, -, ⟨-, hh⟩, -⟩ := right_parts h
  have hn : ∀ (ns : List ByteArray) (q : PD), (ns.map plusW).foldl stepI q = { q with names := q.names ++ ns } := by
    intro ns
    induction ns with
    | nil => intro q; simp
    | cons s ns ih => intro q; rw [List.map_cons, List.foldl_cons, stepI_plus, ih]; simp
  have hk : ∀ (hs : List HD) (q : PD), (∀ x ∈ hs, wordB x.f = true ∧ seatB x.r x.c = true) → (hs.map holdW).foldl stepI q = { q with holds := q.holds ++ hs } := by
    intro hs
    induction hs with
    | nil => intro q _; simp
    | cons x hs ih =>
      intro q hx
      rw [List.map_cons, List.foldl_cons, stepI_hold q (hx x List.mem_cons_self).1 (hx x List.mem_cons_self).2, ih _ (fun y hy => hx y (List.mem_cons_of_mem _ hy))]
      simp
  rw [List.foldl_append, hn, hk _ _ hh]
/-- What numberOf owes: of one digit that. -/
def NumOk (s : ByteArray) (n : Int) : Prop := ∀ m : Int, 0 ≤ m → m < 10 → s = dgT m → n = m
theorem cut_home' {h l : Int} (h0 : 0 ≤ h) (h1 : h < 10) : Lib.cut (homeW h l).data.toList [46] = ((dgT h).data.toList, (dgT l).data.toList, true) := by
  rw [homeW_data]
  exact cut_app 46 _ _ ((WdAll.dg h0 h1).not rfl)
/-- What impl read of some words: the booking, wherever there is one. -/
theorem parseI_text {p : PD} (h : rightB p = true) {a b c d : ByteArray} {r : List ByteArray} {h1 l1 o1 f1 : Int} (hw : wordsP p = a :: b :: c :: d :: r)
    (k1 : NumOk ⟨(Lib.cut a.data.toList [46]).1.toArray⟩ h1) (k2 : NumOk ⟨(Lib.cut a.data.toList [46]).2.1.toArray⟩ l1) (k3 : NumOk c o1)
    (r' : List ByteArray) (k4 : (∃ x y s, r = x :: y :: s ∧ x = twA ∧ NumOk y f1 ∧ r' = s) ∨ ((∀ x y s, r = x :: y :: s → x ≠ twA) ∧ f1 = 0 ∧ r' = r)) :
    r'.foldl stepI ⟨h1, l1, o1, [], [], decide (d = lvA), f1⟩ = p := by
  obtain ⟨⟨⟨a1, a2⟩, ⟨b1, b2⟩, c1, c2⟩, ⟨hn, -⟩, ⟨hh, -⟩, g1, g2⟩ := right_parts h
  rw [wordsP, headW] at hw
  simp only [List.cons_append, List.cons.injEq, List.nil_append] at hw
  obtain ⟨rfl, rfl, rfl, rfl, rfl⟩ := hw
  rw [cut_home' (by omega) (by omega)] at k1 k2
  obtain rfl := k1 p.home (by omega) (by omega) (Lib.mk_data _)
  obtain rfl := k2 p.loc (by omega) (by omega) (Lib.mk_data _)
  obtain rfl := k3 p.owner (by omega) (by omega) rfl
  have hlive : decide ((if p.live = true then lvA else gnA) = lvA) = p.live := by cases p.live <;> simp
  rw [hlive]
  rcases k4 with ⟨x, y, s, hr, rfl, hy, rfl⟩ | ⟨hx, rfl, rfl⟩
  · unfold offW at hr
    split at hr
    · exfalso
      rw [List.nil_append] at hr
      cases hN : p.names with
      | nil =>
        cases hH : p.holds with
        | nil => rw [hN, hH] at hr; cases hr
        | cons z zs =>
          rw [hN, hH] at hr
          simp only [List.map_nil, List.nil_append, List.map_cons, List.cons.injEq] at hr
          exact holdW_ne_to z hr.1
      | cons z zs =>
        rw [hN] at hr
        simp only [List.map_cons, List.cons_append, List.cons.injEq] at hr
        exact plusW_ne_to z hr.1
    · simp only [List.cons_append, List.nil_append, List.cons.injEq] at hr
      obtain ⟨-, rfl, rfl⟩ := hr
      obtain rfl := hy p.offer g1 (by omega) rfl
      rw [foldI_words h]
      simp
  · have hf : p.offer = 0 := by
      refine Classical.byContradiction fun hne => ?_
      refine hx twA (dgT p.offer) (p.names.map plusW ++ p.holds.map holdW) ?_ rfl
      rw [offW, if_neg hne]
      rfl
    rw [offW, if_pos hf, List.nil_append, foldI_words h]
    obtain ⟨ph, pl, po, pn, pk, pb, pf⟩ := p
    dsimp only at hf
    subst hf
    simp
/-- A text has at most one booking. -/
theorem textT_inj {p q : PD} (hp : rightB p = true) (hq : rightB q = true) (h : textT p = textT q) : p = q := by
  rw [← parseS_text hp, h, parseS_text hq]
theorem textT_pos {p : PD} (hp : rightB p = true) : 0 < (textT p).size := by
  have h := textT_join hp
  have e : (textT p).data.toList.length = (textT p).size := by simp
  rw [h] at e
  cases hq : (textT p).size with
  | zero =>
    rw [hq] at e
    have h2 := List.eq_nil_of_length_eq_zero e
    have h3 := cutL_join 32 ((wordsP p).map (·.data.toList)) (by simp [wordsP, headW]) (fun x hx => by obtain ⟨y, hy, rfl⟩ := List.mem_map.1 hx; exact wordsP_free hp y hy)
    rw [h2] at h3
    have := congrArg List.length h3
    simp [cutL, wordsP, headW] at this
  | succ n => omega
/-- What PnrRead answers. -/
def readP (s : ByteArray) : PD × Int :=
  if 8000 < s.size then (⟨0, 0, 0, [], [], false, 0⟩, 2) else if rightB (parseS (cutB 32 s)) = true ∧ textT (parseS (cutB 32 s)) = s then (parseS (cutB 32 s), 0) else (⟨0, 0, 0, [], [], false, 0⟩, 3)
theorem readP_long {s : ByteArray} (h : 8000 < s.size) : readP s = (⟨0, 0, 0, [], [], false, 0⟩, 2) := by rw [readP, if_pos h]
/-- A reader that brings back any booking from its text, and looks whether its text is that, answers so. -/
theorem readP_of {s : ByteArray} (h : s.size ≤ 8000) {p : PD} (hp : ∀ q, rightB q = true → textT q = s → p = q) :
    readP s = if rightB p = true ∧ textT p = s then (p, 0) else (⟨0, 0, 0, [], [], false, 0⟩, 3) := by
  have hS : ∀ q, rightB q = true → textT q = s → parseS (cutB 32 s) = q := fun q hq ht => by rw [← ht]; exact parseS_text hq
  rw [readP, if_neg (by omega)]
  by_cases hc : rightB p = true ∧ textT p = s
  · rw [hS p hc.1 hc.2]
  · rw [if_neg hc, if_neg (fun hh => hc (by rw [hp _ hh.1 hh.2]; exact hh))]
end Go.Proofs.YtpncnkihfijmaaaGreatDoor
namespace Go.Proofs.YtpncnkihfijmaaaGreatDoor
open Go.ChangeShapes Go.WideShapes Go.ChangeAt Go.RowKit Go.ChangeMaps
set_option maxRecDepth 10000
set_option linter.unusedSimpArgs false
set_option linter.unusedVariables false

theorem parse_dg {m : Int} (h0 : 0 ≤ m) (h1 : m < 10) : Lib.parseIntB 64 (dgT m).data.toList = .ok m := by
  have h : m = 0 ∨ m = 1 ∨ m = 2 ∨ m = 3 ∨ m = 4 ∨ m = 5 ∨ m = 6 ∨ m = 7 ∨ m = 8 ∨ m = 9 := by omega
  rw [dgT_data h0 h1]
  rcases h with rfl | rfl | rfl | rfl | rfl | rfl | rfl | rfl | rfl | rfl <;> rfl
def numF (s : ByteArray) : Int := match Lib.parseIntB 64 s.data.toList with
  | .ok v => v
  | .range => Lib.intSat 64 s.data.toList
  | _ => 0
theorem numF_ok (s : ByteArray) : NumOk s (numF s) := fun m h0 h1 he => by
  subst he
  rw [numF, parse_dg h0 h1]
theorem parse_num (s : ByteArray) (w : World) (hs : s.size ≤ 1048576) (hE : ErrVars w) :
    Calls Tryz.prog 120 #[.string s, .int .i64 10, .int .i64 64] w fun e w' => (∃ u, e = .returned (.tuple #[.int .i64 (numF s), u])) ∧ Below w.heap.size w w' := by
  obtain ⟨⟨u1, v1, h1⟩, u2, v2, h2⟩ := hE
  rcases hp : Lib.parseIntB 64 s.data.toList with v | _ | _
  · refine (parseInt_ok s hs v hp w).mono ?_
    rintro e w' ⟨rfl, hb⟩
    exact ⟨⟨_, by rw [numF, hp]⟩, hb⟩
  · refine (Any.strconv_ParseInt_10_at64_syntax_var Tryz.laysC174 s (by omega) hp u1 v1 w h1).mono ?_
    rintro e w' ⟨N, rfl, _, _, hb⟩
    exact ⟨⟨_, by rw [numF, hp]⟩, hb⟩
  · refine (Any.strconv_ParseInt_10_at64_range_var Tryz.laysC174 s (by omega) hp u2 v2 w h2).mono ?_
    rintro e w' ⟨N, rfl, _, _, hb⟩
    exact ⟨⟨_, by rw [numF, hp]⟩, hb⟩
set_option maxHeartbeats 1000000 in
theorem numberOf_any (s : ByteArray) (w : World) (hs : s.size ≤ 1048576) (hE : ErrVars w) : Calls Tryz.prog 95 #[.string s] w fun e w' => e = .returned (.int .i64 (numF s)) ∧ Below w.heap.size w w' := by
  have HP := Lib.hid (fun W hW => parse_num s W hs hW)
  have HEE := Lib.hid hE
  clear hE
  generalize numF s = n at *
  go_enter Tryz.func95, Tryz.ntmps95
  go_wp2_with fail
  refine (HP.out _ HEE.out).mono ?_
  rintro e w1 ⟨⟨u, rfl⟩, hb1⟩
  go_wp2_with fail
  go_ret
  exact ⟨rfl, hb1⟩
end Go.Proofs.YtpncnkihfijmaaaGreatDoor
namespace Go.Proofs.YtpncnkihfijmaaaGreatDoor
open Go.ChangeShapes Go.WideShapes Go.ChangeAt Go.RowKit Go.ChangeMaps
set_option maxRecDepth 10000
set_option linter.unusedSimpArgs false
set_option linter.unusedVariables false

theorem shaped_below {W W' : World} (h : W.ShapedOpen Tryz.prog) (hb : Below W.heap.size W W') : W'.ShapedOpen Tryz.prog :=
  h.keptBut (hb.frame fun _ => False) (fun _ hp => hp.elim)
/-- What the library's readers ask of the world. -/
def Env (W : World) : Prop := ErrVars W ∧ W.ShapedOpen Tryz.prog
theorem Env.on {W W' : World} (h : Env W) (hb : Below W.heap.size W W') : Env W' := ⟨h.1.below hb (Nat.le_refl _), shaped_below h.2 hb⟩

theorem maxLen_cell {W : World} (h : W.ShapedOpen Tryz.prog) : ∃ m, W.cell? ⟨2, 0, none⟩ = some (.int .i64 m) :=
  cell_of_shapedOpen_int (zero := #[.int .i64 0]) (t := 3) h (of_decide_eq_true (by kernel_rfl)) (by kernel_rfl) rfl (by kernel_rfl) (by kernel_rfl) Tryz.underlying3

def cutA (s : ByteArray) (c : UInt8) : ByteArray := ⟨(Lib.cut s.data.toList [c]).1.toArray⟩
def cutZ (s : ByteArray) (c : UInt8) : ByteArray := ⟨(Lib.cut s.data.toList [c]).2.1.toArray⟩
def cutF (s : ByteArray) (c : UInt8) : Bool := (Lib.cut s.data.toList [c]).2.2
theorem cutA_size (s : ByteArray) (c : UInt8) : (cutA s c).size ≤ s.size := by
  have h := (cut_len s.data.toList [c]).1
  rw [cutA, bsize]
  simpa using h
theorem cutZ_size (s : ByteArray) (c : UInt8) : (cutZ s c).size ≤ s.size := by
  have h := (cut_len s.data.toList [c]).2
  rw [cutZ, bsize]
  simpa using h
def CutGot (s : ByteArray) (c : UInt8) (w : World) (e : Ending) (w' : World) : Prop := e = .returned (.tuple #[.string (cutA s c), .string (cutZ s c), .bool (cutF s c)]) ∧ Below w.heap.size w w'
theorem cut_any (s : ByteArray) (c : UInt8) (w : World) (hs : s.size ≤ 1048576) (h : w.ShapedOpen Tryz.prog) : Calls Tryz.prog 107 #[.string s, .string ⟨#[c]⟩] w (CutGot s c w) := by
  obtain ⟨m, hm⟩ := maxLen_cell h
  refine (Tryz.strings_Cut s ⟨#[c]⟩ m w (by omega) hm).mono ?_
  rintro e w' ⟨rfl, n, rfl⟩
  exact ⟨rfl, below_drewN (Below.refl _ _) n⟩
def tailP (s : ByteArray) (c : UInt8) : ByteArray := ⟨(Lib.trimPrefix s.data.toList [c]).toArray⟩
def headP (s : ByteArray) (c : UInt8) : Bool := Lib.hasPrefix s.data.toList [c]
theorem tailP_size (s : ByteArray) (c : UInt8) : (tailP s c).size ≤ s.size := by
  rw [tailP, bsize, Lib.trimPrefix]
  split
  · simp
  · simp
theorem cutPrefix_any (s : ByteArray) (c : UInt8) (w : World) : Calls Tryz.prog 106 #[.string s, .string ⟨#[c]⟩] w fun e w' => e = .returned (.tuple #[.string (tailP s c), .bool (headP s c)]) ∧ w = w' :=
  (Tryz.strings_CutPrefix s ⟨#[c]⟩ w).mono fun e w' h => ⟨h.1, h.2.symm⟩
/-- What Split gives: a row of one's own, as many places as words. -/
def Splits (ws : List ByteArray) (w : World) (e : Ending) (w' : World) : Prop := (∃ A, e = .returned (.slice A ws.length ws.length) ∧ Lies w' w'.heap.size 1 A ws.length (strsC ws)) ∧ Below w.heap.size w w'
theorem split_any (s : ByteArray) (c : UInt8) (w : World) (hs : s.size ≤ 1048576) (h : w.ShapedOpen Tryz.prog) : Calls Tryz.prog 71 #[.string s, .string ⟨#[c]⟩] w (Splits (cutB c s) w) := by
  refine (Tryz.strings_Split_shaped s ⟨#[c]⟩ w h (by omega) (Nat.le_refl _)).mono ?_
  rintro e w' ⟨rfl, rfl⟩
  have hl := Lib.splitB_all ⟨#[c]⟩ (Nat.le_refl _) 0 _ s rfl
  rw [splitB_cut] at hl ⊢
  rw [← hl]
  refine ⟨⟨_, rfl, ?_⟩, (Below.refl _ _).alloc (Nat.le_refl _) _⟩
  refine ⟨by rw [strsC_length, Nat.mul_one], fun _ => ⟨w.heap.size, 0, rfl, by simp, fun j u hu => ?_⟩⟩
  rw [Nat.zero_add, cell_of_row _ w.heap.size j _ _ (0, 0) (heap_alloc_new w _)]
  simpa [strsC] using hu
theorem cutL_sizes (b : UInt8) : ∀ (l x : List UInt8), x ∈ cutL b l → x.length ≤ l.length
  | [], x, h => by simp [cutL] at h; simp [h]
  | c :: l, x, h => by
    rw [cutL] at h
    split at h
    · rcases List.mem_cons.1 h with rfl | h
      · simp
      · have := cutL_sizes b l x h; simp; omega
    · have ih := cutL_sizes b l
      cases hL : cutL b l with
      | nil => rw [hL] at h; simp at h; simp [h]
      | cons y r =>
        rw [hL] at h ih
        dsimp only at h
        rcases List.mem_cons.1 h with rfl | h
        · have := ih y List.mem_cons_self; simp; omega
        · have := ih x (List.mem_cons_of_mem _ h); simp; omega
theorem cutB_sizes (b : UInt8) (s x : ByteArray) (h : x ∈ cutB b s) : x.size ≤ s.size := by
  obtain ⟨l, hl, rfl⟩ := List.mem_map.1 h
  have := cutL_sizes b _ l hl
  rw [bsize]
  simpa using this
theorem cutL_many (b : UInt8) : ∀ l : List UInt8, (cutL b l).length ≤ l.length + 1
  | [] => by simp [cutL]
  | c :: l => by
    have ih := cutL_many b l
    rw [cutL]
    split
    · simp; omega
    · cases hL : cutL b l with
      | nil => simp
      | cons y r => rw [hL] at ih; simp at ih ⊢; omega
theorem cutB_many (b : UInt8) (s : ByteArray) : (cutB b s).length ≤ s.size + 1 := by
  have := cutL_many b s.data.toList
  simpa [cutB] using this
end Go.Proofs.YtpncnkihfijmaaaGreatDoor
namespace Go.Proofs.YtpncnkihfijmaaaGreatDoor
open Go.ChangeShapes Go.WideShapes Go.ChangeAt Go.RowKit Go.ChangeMaps
set_option maxRecDepth 10000
set_option linter.unusedSimpArgs false
set_option linter.unusedVariables false

theorem own_not_block {W : World} {B : Nat} {t e : TypeId} {cs : Array Value} (h : Block W B t cs) (hte : t ≠ e) {base size k : Nat} {v : Value} {xs : List Value} (hr : W.ownsRow base e size v k xs) : v.ownBlock ≠ some B := by
  rcases hr.2 with ⟨rfl, _⟩ | ⟨g, cap, cur, rfl, _, hgb, _⟩
  · simp [Value.ownBlock]
  · intro e'
    obtain rfl : g = B := by simpa [Value.ownBlock] using e'
    have := (show W.heap[g]? = _ from h).symm.trans hgb
    simp at this
    exact hte this.2
/-- Rows of two kinds lie apart. -/
theorem own_apart {W : World} {t e : TypeId} (hte : t ≠ e) {base base' size size' k k' : Nat} {v v' : Value} {xs xs' : List Value} (h : W.ownsRow base t size v k xs) (h' : W.ownsRow base' e size' v' k' xs') : v.ownBlock = none ∨ v.ownBlock ≠ v'.ownBlock := by
  rcases h.2 with ⟨rfl, _⟩ | ⟨g, cap, cur, rfl, _, hgb, _⟩
  · exact .inl rfl
  · refine .inr fun e' => ?_
    exact own_not_block (B := g) (cs := cur) hgb hte h' e'.symm

abbrev pdCs (p : PD) (A1 : Option Addr) (c1 : Nat) (A2 : Option Addr) (c2 : Nat) : Array Value :=
  #[.int .i64 p.home, .int .i64 p.loc, .int .i64 p.owner, .slice A1 p.names.length c1, .slice A2 p.holds.length c2, .bool p.live, .int .i64 p.offer]
structure PSt (base g : Nat) (p : PD) (A1 : Option Addr) (c1 : Nat) (A2 : Option Addr) (c2 : Nat) (W : World) : Prop where
  blk : Block W g 40 (pdCs p A1 c1 A2 c2)
  ns : W.ownsRow base 9 1 (.slice A1 p.names.length c1) p.names.length (strsC p.names)
  hs : W.ownsRow base 49 3 (.slice A2 p.holds.length c2) p.holds.length (holdsC p.holds)
section
variable {base g : Nat} {p : PD} {A1 A2 : Option Addr} {c1 c2 : Nat} {W W' : World}
theorem PSt.on (h : PSt base g p A1 c1 A2 c2 W) (hb : Below W.heap.size W W') : PSt base g p A1 c1 A2 c2 W' := ⟨h.blk.on hb, ownsRow_below h.ns hb, ownsRow_below h.hs hb⟩
theorem PSt.drew (h : PSt base g p A1 c1 A2 c2 W) : PSt base g p A1 c1 A2 c2 W.drew := ⟨h.blk, h.ns, h.hs⟩
theorem PSt.alloc (h : PSt base g p A1 c1 A2 c2 W) (o : Obj) : PSt base g p A1 c1 A2 c2 (W.alloc o) := h.on ((Below.refl _ W).alloc (Nat.le_refl _) o)
theorem PSt.lies (h : PSt base g p A1 c1 A2 c2 W) : PLies W W.heap.size p A1 A2 := ⟨Lies.own h.ns, Lies.own h.hs⟩
theorem PSt.rows (h : PSt base g p A1 c1 A2 c2 W) (i : Nat) (u : Value) : (W.setCell ⟨g, i, none⟩ u).ownsRow base 9 1 (.slice A1 p.names.length c1) p.names.length (strsC p.names) ∧ (W.setCell ⟨g, i, none⟩ u).ownsRow base 49 3 (.slice A2 p.holds.length c2) p.holds.length (holdsC p.holds) :=
  ⟨h.ns.kept (Lib.grownBy_setCell W g i u) (.inr (own_not_block h.blk (by decide) h.ns)), h.hs.kept (Lib.grownBy_setCell W g i u) (.inr (own_not_block h.blk (by decide) h.hs))⟩
theorem PSt.home (h : PSt base g p A1 c1 A2 c2 W) (n : Int) : PSt base g { p with home := n } A1 c1 A2 c2 (W.setCell ⟨g, 0, none⟩ (.int .i64 n)) := ⟨by simpa using h.blk.set_ 0 (.int .i64 n), (h.rows 0 _).1, (h.rows 0 _).2⟩
theorem PSt.loc (h : PSt base g p A1 c1 A2 c2 W) (n : Int) : PSt base g { p with loc := n } A1 c1 A2 c2 (W.setCell ⟨g, 1, none⟩ (.int .i64 n)) := ⟨by simpa using h.blk.set_ 1 (.int .i64 n), (h.rows 1 _).1, (h.rows 1 _).2⟩
theorem PSt.owner (h : PSt base g p A1 c1 A2 c2 W) (n : Int) : PSt base g { p with owner := n } A1 c1 A2 c2 (W.setCell ⟨g, 2, none⟩ (.int .i64 n)) := ⟨by simpa using h.blk.set_ 2 (.int .i64 n), (h.rows 2 _).1, (h.rows 2 _).2⟩
theorem PSt.live (h : PSt base g p A1 c1 A2 c2 W) (n : Bool) : PSt base g { p with live := n } A1 c1 A2 c2 (W.setCell ⟨g, 5, none⟩ (.bool n)) := ⟨by simpa using h.blk.set_ 5 (.bool n), (h.rows 5 _).1, (h.rows 5 _).2⟩
theorem PSt.offer (h : PSt base g p A1 c1 A2 c2 W) (n : Int) : PSt base g { p with offer := n } A1 c1 A2 c2 (W.setCell ⟨g, 6, none⟩ (.int .i64 n)) := ⟨by simpa using h.blk.set_ 6 (.int .i64 n), (h.rows 6 _).1, (h.rows 6 _).2⟩
/-- Behind an append to its names, and the store. -/
theorem PSt.name (h : PSt base g p A1 c1 A2 c2 W) {A3 : Option Addr} {c3 : Nat} {s : ByteArray} (hg : W.grownBy W' (Value.slice A1 p.names.length c1).ownBlock) (hr : W'.ownsRow base 9 1 (.slice A3 (p.names.length + 1) c3) (p.names.length + 1) (strsC p.names ++ [.string s])) :
    Block W' g 40 (pdCs p A1 c1 A2 c2) ∧ PSt base g { p with names := p.names ++ [s] } A3 c3 A2 c2 (W'.setCell ⟨g, 3, none⟩ (.slice A3 (p.names.length + 1) c3)) := by
  have hb : Block W' g 40 (pdCs p A1 c1 A2 c2) := h.blk.kept hg (fun e => own_not_block h.blk (by decide) h.ns e.symm)
  have hh : W'.ownsRow base 49 3 (.slice A2 p.holds.length c2) p.holds.length (holdsC p.holds) := h.hs.kept hg (own_apart (by decide) h.hs h.ns)
  refine ⟨hb, ⟨by simpa [pdCs] using hb.set_ 3 (.slice A3 (p.names.length + 1) c3), ?_, hh.kept (Lib.grownBy_setCell W' g 3 _) (.inr (own_not_block hb (by decide) hh))⟩⟩
  have := hr.kept (Lib.grownBy_setCell W' g 3 (.slice A3 (p.names.length + 1) c3)) (.inr (own_not_block hb (by decide) hr))
  simpa [strsC_append, strsC] using this
/-- .. to its holds. -/
theorem PSt.hold (h : PSt base g p A1 c1 A2 c2 W) {A3 : Option Addr} {c3 : Nat} {x : HD} (hg : W.grownBy W' (Value.slice A2 p.holds.length c2).ownBlock) (hr : W'.ownsRow base 49 3 (.slice A3 (p.holds.length + 1) c3) (p.holds.length + 1) (holdsC p.holds ++ [.string x.f, .int .i64 x.r, .int .i64 x.c])) :
    Block W' g 40 (pdCs p A1 c1 A2 c2) ∧ PSt base g { p with holds := p.holds ++ [x] } A1 c1 A3 c3 (W'.setCell ⟨g, 4, none⟩ (.slice A3 (p.holds.length + 1) c3)) := by
  have hb : Block W' g 40 (pdCs p A1 c1 A2 c2) := h.blk.kept hg (fun e => own_not_block h.blk (by decide) h.hs e.symm)
  have hn : W'.ownsRow base 9 1 (.slice A1 p.names.length c1) p.names.length (strsC p.names) := h.ns.kept hg (own_apart (by decide) h.ns h.hs)
  refine ⟨hb, ⟨by simpa [pdCs] using hb.set_ 4 (.slice A3 (p.holds.length + 1) c3), hn.kept (Lib.grownBy_setCell W' g 4 _) (.inr (own_not_block hb (by decide) hn)), ?_⟩⟩
  have := hr.kept (Lib.grownBy_setCell W' g 4 (.slice A3 (p.holds.length + 1) c3)) (.inr (own_not_block hb (by decide) hr))
  simpa [holdsC_append, holdsC, holdC] using this
end
end Go.Proofs.YtpncnkihfijmaaaGreatDoor
namespace Go.Proofs.YtpncnkihfijmaaaGreatDoor
open Go.ChangeShapes Go.WideShapes Go.ChangeAt Go.RowKit Go.ChangeMaps
set_option maxRecDepth 10000
set_option linter.unusedSimpArgs false
set_option linter.unusedVariables false

/-- How great a booking has come. -/
def FitN (p : PD) (N : Nat) : Prop := p.names.length ≤ N ∧ p.holds.length ≤ N ∧ (∀ s ∈ p.names, s.size ≤ 8000) ∧ (∀ x ∈ p.holds, x.f.size ≤ 8000)
theorem FitN.none_ (h l o : Int) (b : Bool) (f : Int) : FitN ⟨h, l, o, [], [], b, f⟩ 0 := ⟨Nat.le_refl _, Nat.le_refl _, fun _ h => (by cases h), fun _ h => (by cases h)⟩
theorem stepI_name {p : PD} {w : ByteArray} (h : headP w 43 = true) : stepI p w = { p with names := p.names ++ [tailP w 43] } := by rw [stepI, if_pos (show Lib.hasPrefix w.data.toList [43] = true from h)]; rfl
theorem stepI_seat {p : PD} {w : ByteArray} (h : headP w 43 = false) : stepI p w = { p with holds := p.holds ++ [⟨cutA w 58, (seatReadT (cutZ w 58)).1, (seatReadT (cutZ w 58)).2.1⟩] } := by
  rw [stepI, if_neg (fun h' => by rw [show Lib.hasPrefix w.data.toList [43] = headP w 43 from rfl, h] at h'; cases h')]; rfl
theorem FitN.step {p : PD} {N : Nat} {w : ByteArray} (h : FitN p N) (hw : w.size ≤ 8000) : FitN (stepI p w) (N + 1) := by
  obtain ⟨h1, h2, h3, h4⟩ := h
  cases hc : headP w 43
  · rw [stepI_seat hc]
    refine ⟨by dsimp only; omega, by simp; omega, h3, fun x hx => ?_⟩
    rcases List.mem_append.1 hx with hx | hx
    · exact h4 x hx
    · obtain rfl := List.mem_singleton.1 hx
      exact Nat.le_trans (cutA_size w 58) hw
  · rw [stepI_name hc]
    refine ⟨by simp; omega, by dsimp only; omega, fun s hs => ?_, h4⟩
    rcases List.mem_append.1 hs with hs | hs
    · exact h3 s hs
    · obtain rfl := List.mem_singleton.1 hs
      exact Nat.le_trans (tailP_size w 43) hw
theorem FitN.fold {p : PD} {N : Nat} : ∀ (ws : List ByteArray), (∀ w ∈ ws, w.size ≤ 8000) → ∀ p N, FitN p N → FitN (ws.foldl stepI p) (N + ws.length)
  | [], _, p, N, h => h
  | w :: ws, hw, p, N, h => by
    have := FitN.fold (p := p) (N := N) ws (fun x hx => hw x (List.mem_cons_of_mem _ hx)) (stepI p w) (N + 1) (h.step (hw w List.mem_cons_self))
    rw [List.foldl_cons]
    simpa [Nat.add_assoc, Nat.add_comm 1] using this

abbrev zeroP : Array Value := #[.int .i64 0, .int .i64 0, .int .i64 0, .slice none 0 0, .slice none 0 0, .bool false, .int .i64 0]
/-- Its answer's place is empty yet; the booking stands in block g. -/
structure OSt (w : World) (g : Nat) (p : PD) (A1 : Option Addr) (c1 : Nat) (A2 : Option Addr) (c2 : Nat) (W : World) : Prop where
  st : PSt (w.heap.size + 1) g p A1 c1 A2 c2 W
  zero : Block W w.heap.size 40 zeroP
  below : Below w.heap.size w W
  gt : w.heap.size < g
section
variable {w W W' : World} {g : Nat} {p : PD} {A1 A2 : Option Addr} {c1 c2 : Nat}
theorem OSt.on (h : OSt w g p A1 c1 A2 c2 W) (hb : Below W.heap.size W W') : OSt w g p A1 c1 A2 c2 W' := ⟨h.st.on hb, h.zero.on hb, h.below.trans (hb.mono h.below.size), h.gt⟩
theorem OSt.drew (h : OSt w g p A1 c1 A2 c2 W) : OSt w g p A1 c1 A2 c2 W.drew := ⟨h.st.drew, h.zero, h.below.drew, h.gt⟩
theorem OSt.alloc (h : OSt w g p A1 c1 A2 c2 W) (o : Obj) : OSt w g p A1 c1 A2 c2 (W.alloc o) := h.on ((Below.refl _ W).alloc (Nat.le_refl _) o)
theorem OSt.home (h : OSt w g p A1 c1 A2 c2 W) (n : Int) : OSt w g { p with home := n } A1 c1 A2 c2 (W.setCell ⟨g, 0, none⟩ (.int .i64 n)) :=
  ⟨h.st.home n, h.zero.far (Nat.ne_of_lt h.gt) _, h.below.setCell (Nat.le_of_lt h.gt) _, h.gt⟩
theorem OSt.loc (h : OSt w g p A1 c1 A2 c2 W) (n : Int) : OSt w g { p with loc := n } A1 c1 A2 c2 (W.setCell ⟨g, 1, none⟩ (.int .i64 n)) :=
  ⟨h.st.loc n, h.zero.far (Nat.ne_of_lt h.gt) _, h.below.setCell (Nat.le_of_lt h.gt) _, h.gt⟩
theorem OSt.offer (h : OSt w g p A1 c1 A2 c2 W) (n : Int) : OSt w g { p with offer := n } A1 c1 A2 c2 (W.setCell ⟨g, 6, none⟩ (.int .i64 n)) :=
  ⟨h.st.offer n, h.zero.far (Nat.ne_of_lt h.gt) _, h.below.setCell (Nat.le_of_lt h.gt) _, h.gt⟩
theorem OSt.name (h : OSt w g p A1 c1 A2 c2 W) {A3 : Option Addr} {c3 : Nat} {s : ByteArray} (hg : W.grownBy W' (Value.slice A1 p.names.length c1).ownBlock) (hr : W'.ownsRow (w.heap.size + 1) 9 1 (.slice A3 (p.names.length + 1) c3) (p.names.length + 1) (strsC p.names ++ [.string s])) :
    Block W' g 40 (pdCs p A1 c1 A2 c2) ∧ OSt w g { p with names := p.names ++ [s] } A3 c3 A2 c2 (W'.setCell ⟨g, 3, none⟩ (.slice A3 (p.names.length + 1) c3)) := by
  have Y := h.st.name hg hr
  refine ⟨Y.1, ⟨Y.2, (h.zero.kept hg (fun e => own_not_block h.zero (by decide) h.st.ns e.symm)).far (Nat.ne_of_lt h.gt) _, ?_, h.gt⟩⟩
  exact (h.below.grown hg h.below.size (fun j e => by have := (h.st.ns.lt j e).1; omega)).setCell (Nat.le_of_lt h.gt) _
theorem OSt.hold (h : OSt w g p A1 c1 A2 c2 W) {A3 : Option Addr} {c3 : Nat} {x : HD} (hg : W.grownBy W' (Value.slice A2 p.holds.length c2).ownBlock) (hr : W'.ownsRow (w.heap.size + 1) 49 3 (.slice A3 (p.holds.length + 1) c3) (p.holds.length + 1) (holdsC p.holds ++ [.string x.f, .int .i64 x.r, .int .i64 x.c])) :
    Block W' g 40 (pdCs p A1 c1 A2 c2) ∧ OSt w g { p with holds := p.holds ++ [x] } A1 c1 A3 c3 (W'.setCell ⟨g, 4, none⟩ (.slice A3 (p.holds.length + 1) c3)) := by
  have Y := h.st.hold hg hr
  refine ⟨Y.1, ⟨Y.2, (h.zero.kept hg (fun e => own_not_block h.zero (by decide) h.st.hs e.symm)).far (Nat.ne_of_lt h.gt) _, ?_, h.gt⟩⟩
  exact (h.below.grown hg h.below.size (fun j e => by have := (h.st.hs.lt j e).1; omega)).setCell (Nat.le_of_lt h.gt) _
end
end Go.Proofs.YtpncnkihfijmaaaGreatDoor
namespace Go.Proofs.YtpncnkihfijmaaaGreatDoor
open Go.ChangeShapes Go.WideShapes Go.ChangeAt Go.RowKit Go.ChangeMaps
set_option maxRecDepth 10000
set_option linter.unusedSimpArgs false
set_option linter.unusedVariables false

theorem Lies.dropS {w : World} {B n k b off : Nat} {l : List ByteArray} (h : Lies w B 1 (some ⟨b, off, none⟩) n (strsC l)) (hk : k < n) : Lies w B 1 (some ⟨b, off + k, none⟩) (n - k) (strsC (l.drop k)) := by
  obtain ⟨h1, h2⟩ := h
  rw [strsC_length] at h1
  refine ⟨by rw [strsC_length, List.length_drop]; omega, fun h0 => ?_⟩
  obtain ⟨b', off', e, hb, hc⟩ := h2 (by omega)
  cases e
  refine ⟨b, off + k, rfl, hb, fun j u hu => ?_⟩
  have e1 : strsC l = strsC (l.take k) ++ strsC (l.drop k) := by rw [← strsC_append, List.take_append_drop]
  have e2 : (strsC (l.take k)).length = k := by rw [strsC_length, List.length_take]; omega
  rw [Nat.add_assoc]
  refine hc (k + j) u ?_
  rw [e1, List.getElem?_append_right (by omega), e2, Nat.add_sub_cancel_left]
  exact hu
/-- s[k:], and what it reads. -/
theorem slice_from (w : World) (B : Nat) (A : Option Addr) (l : List ByteArray) (cap k : Nat) (hl : Lies w B 1 A l.length (strsC l)) (h0 : 0 < l.length) (hk : k ≤ l.length) (hc : l.length ≤ cap) :
    ∃ A' : Option Addr, (∀ W : World, (Instr.slice 37 (.slice A l.length cap) (some (.int .i64 (k : Int))) none none).run Tryz.prog W = .ok (.slice A' (l.drop k).length (cap - k)) W) ∧ Lies w B 1 A' (l.drop k).length (strsC (l.drop k)) := by
  obtain ⟨b, off, rfl, hb, hcells⟩ := hl.2 h0
  have ht : Tryz.prog.underlying 37 = some (.slice (Tryz.prog.elem 37)) := by kernel_rfl
  have hs : ∀ W : World, (sizeOf (Tryz.prog.elem 37)).run Tryz.prog W = .ok 1 W := fun W => by
    have : Tryz.prog.elem 37 = 9 := by kernel_rfl
    rw [this]
    obtain ⟨i0, hi0, -, hz1, -⟩ := info_parts info_str
    simp [sizeOf, typeInfo, hi0, hz1]
  refine ⟨if cap = k then some ⟨b, off, none⟩ else some ⟨b, off + k, none⟩, fun W => ?_, ?_⟩
  · rw [run_slice_l (ht := ht) (kl := .i64) (l := (k : Int)) (h0 := by omega) (h1 := by omega), hs W]
    simp only [Result.andThen, sliced, Int.toNat_natCast, List.length_drop]
    by_cases hck : cap = k
    · rw [if_pos hck, if_pos hck]
    · rw [if_neg hck, if_neg hck]
      simp [Addr.add]
  · by_cases he : k < l.length
    · rw [if_neg (by omega), List.length_drop]
      exact hl.dropS he
    · have e : l.drop k = [] := List.drop_eq_nil_of_le (by omega)
      rw [e]
      exact ⟨rfl, fun h => absurd h (by simp)⟩
end Go.Proofs.YtpncnkihfijmaaaGreatDoor
