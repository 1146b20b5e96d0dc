/- Texts that lie together in one: Sq, Jn, Jd, Jm. -/
import Derived.Test.YtnkdpogplkomhaaBo
import Derived.Test.YtnkdpogplkomhaaVm
import Derived.Test.YtnkdpogplkomhaaMp
import Derived.Test.YtnkdpogplkomhaaDuo
/- Spans of years over what lies above, as plain data: they are as tight as possible, and what leaves one empty is told by two bounds. -/
namespace Go.Proofs.Ytnkdpogplkomhaa
open Go.RowKit

/-- Over n places: J i j says that the year of i is not before that of j; lo and hi are the places' own limits. -/
def spLow (J : Nat → Nat → Bool) (n : Nat) (lo : Nat → Int) (i : Nat) : Int := maxF (fun j => J i j) lo (List.range n) 0
def spHigh (J : Nat → Nat → Bool) (n : Nat) (hi : Nat → Int) (i : Nat) : Int := minF (fun j => J j i) hi (List.range n) 999
def spOk (J : Nat → Nat → Bool) (n : Nat) (lo hi : Nat → Int) : Bool := (List.range n).all fun i => decide (spLow J n lo i ≤ spHigh J n hi i)
/-- Years that fit. -/
def FitY (J : Nat → Nat → Bool) (n : Nat) (lo hi Y : Nat → Int) : Prop := ∀ i, i < n → (lo i ≤ Y i ∧ Y i ≤ hi i) ∧ ∀ j, j < n → J i j = true → Y j ≤ Y i
section
variable {J : Nat → Nat → Bool} {n : Nat} {lo hi Y : Nat → Int}
theorem spOk_iff : spOk J n lo hi = true ↔ ∀ i, i < n → spLow J n lo i ≤ spHigh J n hi i := by
  simp [spOk]
theorem spLow_ge {i j : Nat} (hj : j < n) (h : J i j = true) : lo j ≤ spLow J n lo i := maxF_ge _ _ (List.mem_range.2 hj) h
theorem spHigh_le {i j : Nat} (hj : j < n) (h : J j i = true) : spHigh J n hi i ≤ hi j := minF_le _ _ (List.mem_range.2 hj) h
theorem spLow_zero (i : Nat) : 0 ≤ spLow J n lo i := maxF_base _ _
theorem spHigh_top (i : Nat) : spHigh J n hi i ≤ 999 := minF_base _ _
/-- Years that fit lie in the spans. -/
theorem fit_in (hlo : ∀ j, j < n → 0 ≤ lo j) (hhi : ∀ j, j < n → hi j ≤ 999) (h : FitY J n lo hi Y) {i : Nat} (hi' : i < n) : spLow J n lo i ≤ Y i ∧ Y i ≤ spHigh J n hi i := by
  obtain ⟨⟨h1, h2⟩, h3⟩ := h i hi'
  constructor
  · exact maxF_most (Int.le_trans (hlo i hi') h1) fun j hj hJ => Int.le_trans (h j (List.mem_range.1 hj)).1.1 (h3 j (List.mem_range.1 hj) hJ)
  · exact minF_least (Int.le_trans h2 (hhi i hi')) fun j hj hJ => Int.le_trans ((h j (List.mem_range.1 hj)).2 i hi' hJ) (h j (List.mem_range.1 hj)).1.2
theorem fit_ok (hlo : ∀ j, j < n → 0 ≤ lo j) (hhi : ∀ j, j < n → hi j ≤ 999) (h : FitY J n lo hi Y) : spOk J n lo hi = true :=
  spOk_iff.2 fun _ hi' => Int.le_trans (fit_in hlo hhi h hi').1 (fit_in hlo hhi h hi').2
/-- What is not before another one has no lesser span. -/
theorem spLow_mono (ht : ∀ i j k, J i j = true → J j k = true → J i k = true) {i j : Nat} (h : J i j = true) : spLow J n lo j ≤ spLow J n lo i :=
  maxF_most (spLow_zero i) fun _ hk hJ => spLow_ge (List.mem_range.1 hk) (ht _ _ _ h hJ)
theorem spHigh_mono (ht : ∀ i j k, J i j = true → J j k = true → J i k = true) {i j : Nat} (h : J i j = true) : spHigh J n hi j ≤ spHigh J n hi i :=
  minF_least (spHigh_top j) fun _ hk hJ => spHigh_le (List.mem_range.1 hk) (ht _ _ _ hJ h)
/-- The first and the last years of the spans fit. -/
theorem spLow_fit (hr : ∀ i, i < n → J i i = true) (ht : ∀ i j k, J i j = true → J j k = true → J i k = true) (h : spOk J n lo hi = true) : FitY J n lo hi (spLow J n lo) := fun i hi' =>
  ⟨⟨spLow_ge hi' (hr i hi'), Int.le_trans (spOk_iff.1 h i hi') (spHigh_le hi' (hr i hi'))⟩, fun _ _ hJ => spLow_mono ht hJ⟩
theorem spHigh_fit (hr : ∀ i, i < n → J i i = true) (ht : ∀ i j k, J i j = true → J j k = true → J i k = true) (h : spOk J n lo hi = true) : FitY J n lo hi (spHigh J n hi) := fun i hi' =>
  ⟨⟨Int.le_trans (spLow_ge hi' (hr i hi')) (spOk_iff.1 h i hi'), spHigh_le hi' (hr i hi')⟩, fun _ _ hJ => spHigh_mono ht hJ⟩
/-- A span is empty just where two places' own limits contradict each other. -/
theorem spOk_no (hr : ∀ i, i < n → J i i = true) (ht : ∀ i j k, J i j = true → J j k = true → J i k = true) (hlo : ∀ j, j < n → lo j ≤ 999) (hhi : ∀ j, j < n → 0 ≤ hi j) : spOk J n lo hi = false ↔ ∃ i j, i < n ∧ j < n ∧ J i j = true ∧ hi i < lo j := by
  constructor
  · intro h
    obtain ⟨i, hi', h1⟩ : ∃ i, i < n ∧ spHigh J n hi i < spLow J n lo i := Classical.byContradiction fun hno => by
      have : spOk J n lo hi = true := spOk_iff.2 fun i hi' => Classical.byContradiction fun h2 => hno ⟨i, hi', by omega⟩
      rw [h] at this
      cases this
    have h2 : 0 ≤ spHigh J n hi i := minF_least (by omega) fun j hj _ => hhi j (List.mem_range.1 hj)
    have h3 : spLow J n lo i ≤ 999 := maxF_most (by omega) fun j hj _ => hlo j (List.mem_range.1 hj)
    rcases maxF_or (p := fun j => J i j) (g := lo) (List.range n) 0 with h4 | ⟨j, hj, hJ, h4⟩
    · have : spLow J n lo i = 0 := h4
      omega
    · rcases minF_or (p := fun k => J k i) (g := hi) (List.range n) 999 with h5 | ⟨k, hk, hJ2, h5⟩
      · have : spHigh J n hi i = 999 := h5
        omega
      · have e1 : spLow J n lo i = lo j := h4
        have e2 : spHigh J n hi i = hi k := h5
        exact ⟨k, j, List.mem_range.1 hk, List.mem_range.1 hj, ht _ _ _ hJ2 hJ, by omega⟩
  · rintro ⟨i, j, hi', hj, hJ, h⟩
    cases hs : spOk J n lo hi
    · rfl
    · have h1 := spOk_iff.1 hs i hi'
      have h2 := spLow_ge (lo := lo) hj hJ
      have h3 := spHigh_le (hi := hi) hi' (hr i hi')
      omega
/-- Wider limits leave wider spans. -/
theorem spLow_less {lo2 : Nat → Int} (h : ∀ j, j < n → lo2 j ≤ lo j) (i : Nat) : spLow J n lo2 i ≤ spLow J n lo i :=
  maxF_most (spLow_zero i) fun j hj hJ => Int.le_trans (h j (List.mem_range.1 hj)) (spLow_ge (List.mem_range.1 hj) hJ)
theorem spHigh_more {hi2 : Nat → Int} (h : ∀ j, j < n → hi j ≤ hi2 j) (i : Nat) : spHigh J n hi i ≤ spHigh J n hi2 i :=
  minF_least (spHigh_top i) fun j hj hJ => Int.le_trans (spHigh_le (List.mem_range.1 hj) hJ) (h j (List.mem_range.1 hj))
theorem spOk_less {lo2 hi2 : Nat → Int} (h1 : ∀ j, j < n → lo2 j ≤ lo j) (h2 : ∀ j, j < n → hi j ≤ hi2 j) (h : spOk J n lo hi = true) : spOk J n lo2 hi2 = true :=
  spOk_iff.2 fun i hi' => Int.le_trans (spLow_less h1 i) (Int.le_trans (spOk_iff.1 h i hi') (spHigh_more h2 i))
end
end Go.Proofs.Ytnkdpogplkomhaa

/- What is not before another place by relations, as plain data: what lies above it, and what shares its group. -/
namespace Go.Proofs.Ytnkdpogplkomhaa
open Go.RowKit

/-- The year of place i is not before that of place j. -/
def joinJ (ids : List Int) (l : List Ctx) (i j : Nat) : Bool := ordF ids l i j || decide ((groupsG ids l).getD i 0 = (groupsG ids l).getD j 0)
theorem joinJ_refl (ids : List Int) (l : List Ctx) (i : Nat) : joinJ ids l i i = true := by simp [joinJ]
theorem joinJ_iff {ids : List Int} {l : List Ctx} {i j : Nat} : joinJ ids l i j = true ↔ ordF ids l i j = true ∨ (groupsG ids l).getD i 0 = (groupsG ids l).getD j 0 := by
  simp [joinJ]
/-- Places of one group have the same order. -/
theorem ordF_same {ids : List Int} {l : List Ctx} (h : okG ids l = true) {i j : Nat} (hi : i < ids.length) (hj : j < ids.length) (he : (groupsG ids l).getD i 0 = (groupsG ids l).getD j 0) (k : Nat) :
    ordF ids l i k = ordF ids l j k ∧ ordF ids l k i = ordF ids l k j := by
  have hv := (okG_parts h).1
  have hgi : (groupsG ids l)[i]? = some ((groupsG ids l).getD i 0) := by have := groupsG_len ids l; simp [this, hi]
  have hgj : (groupsG ids l)[j]? = some ((groupsG ids l).getD j 0) := by have := groupsG_len ids l; simp [this, hj]
  have e1 := labG_at hv (x := ids.getD i 0) (by simp [hi]) hgi
  have e2 := labG_at hv (x := ids.getD j 0) (by simp [hj]) hgj
  have e3 : labG ids (groupsG ids l) (ids.getD i 0) = labG ids (groupsG ids l) (ids.getD j 0) := by rw [e1, e2, he]
  have e4 := upG_same (c := ids.getD k 0) e3
  constructor
  · unfold ordF
    rw [e4.1]
    simp [hi, hj]
  · unfold ordF
    rw [e4.2]
    simp [hi, hj]
theorem joinJ_tr {ids : List Int} {l : List Ctx} (h : okG ids l = true) {i j k : Nat} (hi : i < ids.length) (hj : j < ids.length) (hk : k < ids.length) (h1 : joinJ ids l i j = true) (h2 : joinJ ids l j k = true) : joinJ ids l i k = true := by
  rw [joinJ_iff] at h1 h2 ⊢
  rcases h1 with h1 | h1
  · rcases h2 with h2 | h2
    · exact .inl (ordF_tr h _ _ _ h1 h2)
    · exact .inl (by rw [← (ordF_same h hj hk h2 i).2]; exact h1)
  · rcases h2 with h2 | h2
    · exact .inl (by rw [(ordF_same h hi hj h1 k).1]; exact h2)
    · exact .inr (h1.trans h2)
/-- The same, cut to the places that there are: reflexive and transitive over all numbers below n, and in all. -/
def joinK (ids : List Int) (l : List Ctx) (i j : Nat) : Bool := decide (i < ids.length) && (decide (j < ids.length) && joinJ ids l i j)
theorem joinK_at {ids : List Int} {l : List Ctx} {i j : Nat} (hi : i < ids.length) (hj : j < ids.length) : joinK ids l i j = joinJ ids l i j := by simp [joinK, hi, hj]
theorem joinK_refl {ids : List Int} {l : List Ctx} (i : Nat) (hi : i < ids.length) : joinK ids l i i = true := by rw [joinK_at hi hi]; exact joinJ_refl ids l i
theorem joinK_tr {ids : List Int} {l : List Ctx} (h : okG ids l = true) (i j k : Nat) (h1 : joinK ids l i j = true) (h2 : joinK ids l j k = true) : joinK ids l i k = true := by
  simp only [joinK, Bool.and_eq_true, decide_eq_true_eq] at h1 h2 ⊢
  exact ⟨h1.1, h2.2.1, joinJ_tr h h1.1 h1.2.1 h2.2.1 h1.2.2 h2.2.2⟩
/-- Two contexts of one group have the same span. -/
theorem span_group {ids : List Int} {l : List Ctx} (h : okG ids l = true) {lo hi : Nat → Int} {i j : Nat} (hi' : i < ids.length) (hj : j < ids.length) (he : (groupsG ids l).getD i 0 = (groupsG ids l).getD j 0) :
    spLow (joinK ids l) ids.length lo i = spLow (joinK ids l) ids.length lo j ∧ spHigh (joinK ids l) ids.length hi i = spHigh (joinK ids l) ids.length hi j := by
  have e1 : joinK ids l i j = true := by rw [joinK_at hi' hj, joinJ_iff]; exact .inr he
  have e2 : joinK ids l j i = true := by rw [joinK_at hj hi', joinJ_iff]; exact .inr he.symm
  exact ⟨Int.le_antisymm (spLow_mono (joinK_tr h) e2) (spLow_mono (joinK_tr h) e1), Int.le_antisymm (spHigh_mono (joinK_tr h) e2) (spHigh_mono (joinK_tr h) e1)⟩
end Go.Proofs.Ytnkdpogplkomhaa

/- Dates as plain data: the spans of the contexts, what years fit, and which two bounds leave none. -/
namespace Go.Proofs.Ytnkdpogplkomhaa
open Go.RowKit

def loP (ids : List Int) (B : List Ctx) (j : Nat) : Int := lowB B (ids.getD j 0)
def hiP (ids : List Int) (B : List Ctx) (j : Nat) : Int := highB B (ids.getD j 0)
/-- The arguments are valid, and each bound is one of a context that there is. -/
def argsD (ids : List Int) (l B : List Ctx) : Bool := ordOkG ids l && (validB B && B.all fun b => decide (b.id ∈ ids))
def lowD (ids : List Int) (l B : List Ctx) (i : Nat) : Int := spLow (joinK ids l) ids.length (loP ids B) i
def highD (ids : List Int) (l B : List Ctx) (i : Nat) : Int := spHigh (joinK ids l) ids.length (hiP ids B) i
def okD (ids : List Int) (l B : List Ctx) : Bool := argsD ids l B && spOk (joinK ids l) ids.length (loP ids B) (hiP ids B)
def allD (ids : List Int) (l B : List Ctx) : List Sp := (List.range ids.length).map fun i => ⟨lowD ids l B i, highD ids l B i⟩
def datesD (ids : List Int) (l B : List Ctx) : List Sp := if okD ids l B = true then allD ids l B else []
def firstD (ids : List Int) (l B : List Ctx) : List Int := (datesD ids l B).map Sp.lo
/-- Years that fit the arguments. -/
def fitD (ids : List Int) (l B : List Ctx) (Y : List Int) : Bool :=
  argsD ids l B && (decide (Y.length = ids.length) && (List.range ids.length).all fun i =>
    inR (Y.getD i 0) (loP ids B i) (hiP ids B i) && (List.range ids.length).all fun j => !joinK ids l i j || decide (Y.getD j 0 ≤ Y.getD i 0))
section
variable {ids : List Int} {l B : List Ctx} {Y : List Int}
theorem argsD_parts (h : argsD ids l B = true) : ordOkG ids l = true ∧ validB B = true ∧ ∀ b ∈ B, b.id ∈ ids := by
  simp only [argsD, Bool.and_eq_true, List.all_eq_true, decide_eq_true_eq] at h
  exact h
theorem okD_parts (h : okD ids l B = true) : argsD ids l B = true ∧ spOk (joinK ids l) ids.length (loP ids B) (hiP ids B) = true := by
  simp only [okD, Bool.and_eq_true] at h
  exact h
theorem allD_len (ids : List Int) (l B : List Ctx) : (allD ids l B).length = ids.length := by simp [allD]
theorem allD_at {i : Nat} (hi : i < ids.length) : (allD ids l B)[i]? = some ⟨lowD ids l B i, highD ids l B i⟩ := by simp [allD, hi]
theorem datesD_ok (h : okD ids l B = true) : datesD ids l B = allD ids l B := if_pos h
theorem datesD_no (h : okD ids l B = false) : datesD ids l B = [] := by simp [datesD, h]
theorem datesD_len (ids : List Int) (l B : List Ctx) : (datesD ids l B).length ≤ ids.length := by
  unfold datesD
  split
  · rw [allD_len]; omega
  · simp
theorem loP_zero (j : Nat) : 0 ≤ loP ids B j := lowB_zero _ _
theorem hiP_top (j : Nat) : hiP ids B j ≤ 999 := highB_top _ _
theorem fitD_iff : fitD ids l B Y = true ↔ argsD ids l B = true ∧ Y.length = ids.length ∧ FitY (joinK ids l) ids.length (loP ids B) (hiP ids B) fun i => Y.getD i 0 := by
  simp only [fitD, FitY, inR, Bool.and_eq_true, decide_eq_true_eq, List.all_eq_true, List.mem_range, Bool.or_eq_true, Bool.not_eq_true']
  constructor
  · rintro ⟨h1, h2, h3⟩
    refine ⟨h1, h2, fun i hi => ⟨(h3 i hi).1, fun j hj hJ => ?_⟩⟩
    rcases (h3 i hi).2 j hj with h | h
    · rw [hJ] at h; cases h
    · exact h
  · rintro ⟨h1, h2, h3⟩
    refine ⟨h1, h2, fun i hi => ⟨(h3 i hi).1, fun j hj => ?_⟩⟩
    cases hJ : joinK ids l i j
    · exact .inl rfl
    · exact .inr ((h3 i hi).2 j hj hJ)
/-- Where years fit, there are spans, and the years lie in them. -/
theorem fit_spans (h : fitD ids l B Y = true) : okD ids l B = true ∧ ∀ i, i < ids.length → lowD ids l B i ≤ Y.getD i 0 ∧ Y.getD i 0 ≤ highD ids l B i := by
  obtain ⟨h1, _, h3⟩ := fitD_iff.1 h
  refine ⟨?_, fun i hi => fit_in (fun j _ => loP_zero j) (fun j _ => hiP_top j) h3 hi⟩
  simp only [okD, h1, Bool.true_and]
  exact fit_ok (fun j _ => loP_zero j) (fun j _ => hiP_top j) h3
/-- The first and the last years of the spans fit. -/
theorem first_fit (h : okD ids l B = true) {F : List Int} (hl : F.length = ids.length) (hF : ∀ i, i < ids.length → F.getD i 0 = lowD ids l B i) : fitD ids l B F = true := by
  obtain ⟨h1, h2⟩ := okD_parts h
  refine fitD_iff.2 ⟨h1, hl, fun i hi => ?_⟩
  have hk := spLow_fit (@joinK_refl ids l) (joinK_tr (ordOk_okG (argsD_parts h1).1)) h2 i hi
  show (loP ids B i ≤ F.getD i 0 ∧ F.getD i 0 ≤ hiP ids B i) ∧ ∀ j, j < ids.length → joinK ids l i j = true → F.getD j 0 ≤ F.getD i 0
  refine ⟨by rw [hF i hi]; exact hk.1, fun j hj hJ => ?_⟩
  rw [hF i hi, hF j hj]
  exact hk.2 j hj hJ
theorem last_fit (h : okD ids l B = true) {F : List Int} (hl : F.length = ids.length) (hF : ∀ i, i < ids.length → F.getD i 0 = highD ids l B i) : fitD ids l B F = true := by
  obtain ⟨h1, h2⟩ := okD_parts h
  refine fitD_iff.2 ⟨h1, hl, fun i hi => ?_⟩
  have hk := spHigh_fit (@joinK_refl ids l) (joinK_tr (ordOk_okG (argsD_parts h1).1)) h2 i hi
  show (loP ids B i ≤ F.getD i 0 ∧ F.getD i 0 ≤ hiP ids B i) ∧ ∀ j, j < ids.length → joinK ids l i j = true → F.getD j 0 ≤ F.getD i 0
  refine ⟨by rw [hF i hi]; exact hk.1, fun j hj hJ => ?_⟩
  rw [hF i hi, hF j hj]
  exact hk.2 j hj hJ
/-- The spans lie in all bounds. -/
theorem dates_in {i : Nat} {b : Ctx} (hi : i < ids.length) (hb : b ∈ B) (he : b.id = ids.getD i 0) : b.kind ≤ lowD ids l B i ∧ highD ids l B i ≤ b.area :=
  ⟨Int.le_trans (lowB_ge hb he) (spLow_ge hi (joinK_refl i hi)), Int.le_trans (spHigh_le hi (joinK_refl i hi)) (highB_le hb he)⟩
/-- What lies above is not older; what is equal has one span. -/
theorem dates_order (h : okG ids l = true) {i j : Nat} (hJ : joinK ids l i j = true) : lowD ids l B j ≤ lowD ids l B i ∧ highD ids l B j ≤ highD ids l B i :=
  ⟨spLow_mono (joinK_tr h) hJ, spHigh_mono (joinK_tr h) hJ⟩
/-- Fewer bounds leave wider spans. -/
theorem dates_less {M : List Ctx} (hs : M.Sublist B) (h : okD ids l B = true) : okD ids l M = true ∧ ∀ i, lowD ids l M i ≤ lowD ids l B i ∧ highD ids l B i ≤ highD ids l M i := by
  obtain ⟨h1, h2⟩ := okD_parts h
  obtain ⟨a1, a2, a3⟩ := argsD_parts h1
  have h3 : ∀ j, loP ids M j ≤ loP ids B j := fun j => lowB_sub fun b hb => hs.subset hb
  have h4 : ∀ j, hiP ids B j ≤ hiP ids M j := fun j => highB_sub fun b hb => hs.subset hb
  refine ⟨?_, fun i => ⟨spLow_less (fun j _ => h3 j) i, spHigh_more (fun j _ => h4 j) i⟩⟩
  simp only [okD, argsD, Bool.and_eq_true, List.all_eq_true, decide_eq_true_eq]
  exact ⟨⟨a1, validB_sub a2 hs, fun b hb => a3 b (hs.subset hb)⟩, spOk_less (fun j _ => h3 j) (fun j _ => h4 j) h2⟩
/-- The least relations join the same places. -/
theorem join_mat (h : ordOkG ids l = true) : joinK ids (matG ids l) = joinK ids l := by
  funext i j
  unfold joinK joinJ ordF
  rw [mat_groups h, mat_up h]
theorem dates_mat (h : ordOkG ids l = true) : okD ids (matG ids l) B = okD ids l B ∧ datesD ids (matG ids l) B = datesD ids l B := by
  have e1 : okD ids (matG ids l) B = okD ids l B := by
    unfold okD argsD
    rw [join_mat h, mat_ord h, h]
  refine ⟨e1, ?_⟩
  unfold datesD allD lowD highD
  rw [e1, join_mat h]
/-- A first bound leaves no year for a second one. -/
def clashD (ids : List Int) (l : List Ctx) (a b : Ctx) : Bool := joinK ids l (placeI ids b.id) (placeI ids a.id) && decide (b.area < a.kind)
/-- The spans are there just where no two bounds clash. -/
theorem okD_clash (h : argsD ids l B = true) : okD ids l B = false ↔ ∃ a b, a ∈ B ∧ b ∈ B ∧ clashD ids l a b = true := by
  obtain ⟨a1, a2, a3⟩ := argsD_parts h
  have hok := ordOk_okG a1
  have hv := (okG_parts hok).1
  have e : okD ids l B = spOk (joinK ids l) ids.length (loP ids B) (hiP ids B) := by simp [okD, h]
  have hno := spOk_no (lo := loP ids B) (hi := hiP ids B) (@joinK_refl ids l) (joinK_tr hok) (fun j _ => lowB_max a2 (ids.getD j 0)) (fun j _ => highB_min a2 (ids.getD j 0))
  rw [e, hno]
  constructor
  · rintro ⟨i, j, hi, hj, hJ, hlt⟩
    obtain ⟨a, b, ha, hb, e1, e2, h5⟩ := span_clash (id := ids.getD j 0) (id2 := ids.getD i 0) a2 hlt
    refine ⟨a, b, ha, hb, ?_⟩
    have p1 : placeI ids a.id = j := placeI_own hv (by rw [e1]; simp [hj])
    have p2 : placeI ids b.id = i := placeI_own hv (by rw [e2]; simp [hi])
    simp only [clashD, p1, p2, hJ, Bool.true_and, decide_eq_true_eq]
    exact h5
  · rintro ⟨a, b, ha, hb, hc⟩
    simp only [clashD, Bool.and_eq_true, decide_eq_true_eq] at hc
    have hJ := hc.1
    simp only [joinK, Bool.and_eq_true, decide_eq_true_eq] at hJ
    refine ⟨placeI ids b.id, placeI ids a.id, hJ.1, hJ.2.1, hc.1, ?_⟩
    have g1 : ids.getD (placeI ids a.id) 0 = a.id := by have := (placeI_at (a3 a ha)).2.2; simp [List.getD_eq_getElem?_getD, this]
    have g2 : ids.getD (placeI ids b.id) 0 = b.id := by have := (placeI_at (a3 b hb)).2.2; simp [List.getD_eq_getElem?_getD, this]
    unfold loP hiP
    rw [g1, g2]
    exact clash_span ha hb hc.2
/-- What years fit, told place by place and bound by bound. -/
theorem fit_told (ho : ordOkG ids l = true) (hv : validB B = true) (hl : Y.length = ids.length) : fitD ids l B Y = true ↔
    (∀ i, i < ids.length → (0 ≤ Y.getD i 0 ∧ Y.getD i 0 ≤ 999) ∧ ∀ j, j < ids.length → (upG ids l (ids.getD i 0) (ids.getD j 0) = true → Y.getD j 0 ≤ Y.getD i 0) ∧ ((groupsG ids l).getD i 0 = (groupsG ids l).getD j 0 → Y.getD i 0 = Y.getD j 0)) ∧
    ∀ b ∈ B, ∃ i, i < ids.length ∧ ids.getD i 0 = b.id ∧ b.kind ≤ Y.getD i 0 ∧ Y.getD i 0 ≤ b.area := by
  have hok := ordOk_okG ho
  have hvi := (okG_parts hok).1
  have hup : ∀ {i j : Nat}, i < ids.length → j < ids.length → ordF ids l i j = upG ids l (ids.getD i 0) (ids.getD j 0) := fun hi hj => by simp [ordF, hi, hj]
  rw [fitD_iff]
  constructor
  · rintro ⟨h1, _, h3⟩
    obtain ⟨_, _, a3⟩ := argsD_parts h1
    refine ⟨fun i hi => ⟨⟨Int.le_trans (loP_zero i) (h3 i hi).1.1, Int.le_trans (h3 i hi).1.2 (hiP_top i)⟩, fun j hj => ⟨fun hu => ?_, fun hg => ?_⟩⟩, fun b hb => ?_⟩
    · exact (h3 i hi).2 j hj (by rw [joinK_at hi hj, joinJ_iff, hup hi hj]; exact .inl hu)
    · exact Int.le_antisymm ((h3 j hj).2 i hi (by rw [joinK_at hj hi, joinJ_iff]; exact .inr hg.symm)) ((h3 i hi).2 j hj (by rw [joinK_at hi hj, joinJ_iff]; exact .inr hg))
    · obtain ⟨_, p2, p3⟩ := placeI_at (a3 b hb)
      have p4 : ids.getD (placeI ids b.id) 0 = b.id := by simp [List.getD_eq_getElem?_getD, p3]
      exact ⟨placeI ids b.id, p2, p4, Int.le_trans (lowB_ge hb p4.symm) (h3 _ p2).1.1, Int.le_trans (h3 _ p2).1.2 (highB_le hb p4.symm)⟩
  · rintro ⟨h1, h2⟩
    have one : ∀ {i : Nat} {b : Ctx}, i < ids.length → b ∈ B → b.id = ids.getD i 0 → b.kind ≤ Y.getD i 0 ∧ Y.getD i 0 ≤ b.area := fun {i b} hi hb he => by
      obtain ⟨k, hk, e, h3, h4⟩ := h2 b hb
      have e1 : placeI ids b.id = k := placeI_own hvi (by rw [← e]; simp [hk])
      have e2 : placeI ids b.id = i := placeI_own hvi (by rw [he]; simp [hi])
      have : k = i := e1.symm.trans e2
      subst this
      exact ⟨h3, h4⟩
    refine ⟨?_, hl, fun i hi => ⟨⟨?_, ?_⟩, fun j hj hJ => ?_⟩⟩
    · simp only [argsD, Bool.and_eq_true, List.all_eq_true, decide_eq_true_eq]
      refine ⟨ho, hv, fun b hb => ?_⟩
      obtain ⟨k, hk, e, _⟩ := h2 b hb
      rw [← e]
      simp [List.getD_eq_getElem?_getD, hk]
    · exact maxF_most (h1 i hi).1.1 fun b hb hp => (one hi hb (by simpa [ofB] using hp)).1
    · exact minF_least (h1 i hi).1.2 fun b hb hp => (one hi hb (by simpa [ofB] using hp)).2
    · rw [joinK_at hi hj, joinJ_iff, hup hi hj] at hJ
      rcases hJ with hJ | hJ
      · exact ((h1 i hi).2 j hj).1 hJ
      · exact Int.le_of_eq (((h1 i hi).2 j hj).2 hJ).symm
end
end Go.Proofs.Ytnkdpogplkomhaa

/- The two bounds that are blamed, as plain data. -/
namespace Go.Proofs.Ytnkdpogplkomhaa
open Go.RowKit

def atB (B : List Ctx) (i : Nat) : Ctx := (B[i]?).getD ⟨0, 0, 0⟩
theorem atB_of {B : List Ctx} {i : Nat} (h : i < B.length) : atB B i = B[i] := by simp [atB, h]
theorem atB_mem {B : List Ctx} {i : Nat} (h : i < B.length) : atB B i ∈ B := by rw [atB_of h]; exact List.getElem_mem h
theorem atB_take {B : List Ctx} {i m : Nat} (h : i < m) : atB (B.take m) i = atB B i := by simp [atB, h]
/-- One of two places' bounds leaves no year for the other. -/
def clashP (ids : List Int) (l B : List Ctx) (i k : Nat) : Bool := clashD ids l (atB B i) (atB B k) || clashD ids l (atB B k) (atB B i)
/-- The first two places whose bounds clash. -/
def FirstB (ids : List Int) (l B : List Ctx) (i k : Nat) : Prop :=
  i < k ∧ k < B.length ∧ clashP ids l B i k = true ∧ (∀ k', i < k' → k' < k → clashP ids l B i k' = false) ∧ ∀ i' k', i' < i → i' < k' → k' < B.length → clashP ids l B i' k' = false
def NoneB (ids : List Int) (l B : List Ctx) : Prop := ∀ i k, i < k → k < B.length → clashP ids l B i k = false
/-- What is blamed. -/
def Blamed (ids : List Int) (l B : List Ctx) (O : List Int) : Prop :=
  (O = [] ∧ (argsD ids l B = false ∨ NoneB ids l B)) ∨ ∃ i k : Nat, O = [(i : Int), (k : Int)] ∧ argsD ids l B = true ∧ FirstB ids l B i k
section
variable {ids : List Int} {l B : List Ctx} {O : List Int}
theorem first_one {i k i2 k2 : Nat} (h : FirstB ids l B i k) (h2 : FirstB ids l B i2 k2) : i = i2 ∧ k = k2 := by
  obtain ⟨a1, a2, a3, a4, a5⟩ := h
  obtain ⟨b1, b2, b3, b4, b5⟩ := h2
  have e : i = i2 := by
    rcases Nat.lt_trichotomy i i2 with h | h | h
    · rw [b5 i k h a1 a2] at a3; cases a3
    · exact h
    · rw [a5 i2 k2 h b1 b2] at b3; cases b3
  subst e
  refine ⟨rfl, ?_⟩
  rcases Nat.lt_trichotomy k k2 with h | h | h
  · rw [b4 k a1 h] at a3; cases a3
  · exact h
  · rw [a4 k2 b1 h] at b3; cases b3
theorem blamed_one {O2 : List Int} (h : Blamed ids l B O) (h2 : Blamed ids l B O2) : O = O2 := by
  rcases h with ⟨rfl, h⟩ | ⟨i, k, rfl, h, hf⟩
  · rcases h2 with ⟨rfl, _⟩ | ⟨i2, k2, rfl, h2, hf2⟩
    · rfl
    · rcases h with h | h
      · rw [h2] at h; cases h
      · obtain ⟨b1, b2, b3, _⟩ := hf2
        rw [h _ _ b1 b2] at b3; cases b3
  · rcases h2 with ⟨rfl, h2⟩ | ⟨i2, k2, rfl, _, hf2⟩
    · rcases h2 with h2 | h2
      · rw [h] at h2; cases h2
      · obtain ⟨b1, b2, b3, _⟩ := hf
        rw [h2 _ _ b1 b2] at b3; cases b3
    · obtain ⟨rfl, rfl⟩ := first_one hf hf2
      rfl
theorem clash_two {a b : Ctx} {M : List Ctx} (ha : a ∈ M) (hb : b ∈ M) (h : clashD ids l a b = true) : okD ids l M = false := by
  cases he : argsD ids l M
  · simp [okD, he]
  · exact (okD_clash he).2 ⟨a, b, ha, hb, h⟩
/-- The two that are blamed are enough for a contradiction. -/
theorem first_two {i k : Nat} (h : FirstB ids l B i k) : okD ids l [atB B i, atB B k] = false := by
  have h3 := h.2.2.1
  simp only [clashP, Bool.or_eq_true] at h3
  rcases h3 with h3 | h3
  · exact clash_two (by simp) (by simp) h3
  · exact clash_two (by simp) (by simp) h3
/-- Nothing is blamed just where there are spans. -/
theorem none_ok (h : argsD ids l B = true) : NoneB ids l B ↔ okD ids l B = true := by
  obtain ⟨_, hv, _⟩ := argsD_parts h
  constructor
  · intro hn
    cases he : okD ids l B
    · obtain ⟨a, b, ha, hb, hc⟩ := (okD_clash h).1 he
      obtain ⟨i, hi, rfl⟩ := List.getElem_of_mem ha
      obtain ⟨k, hk, rfl⟩ := List.getElem_of_mem hb
      rcases Nat.lt_trichotomy i k with hik | hik | hik
      · have := hn i k hik hk
        simp only [clashP, Bool.or_eq_false_iff, atB_of hi, atB_of hk] at this
        rw [hc] at this; exact absurd this.1 (by simp)
      · subst hik
        simp only [clashD, Bool.and_eq_true, decide_eq_true_eq] at hc
        have := (okB_parts ((validB_ok hv).1 _ (List.getElem_mem hi))).2.2.1
        omega
      · have := hn k i hik hi
        simp only [clashP, Bool.or_eq_false_iff, atB_of hi, atB_of hk] at this
        rw [hc] at this; exact absurd this.2 (by simp)
    · rfl
  · intro hok i k hik hk
    cases hc : clashP ids l B i k
    · rfl
    · simp only [clashP, Bool.or_eq_true] at hc
      have hi : i < B.length := by omega
      have : okD ids l B = false := by
        rcases hc with hc | hc
        · exact clash_two (atB_mem hi) (atB_mem hk) hc
        · exact clash_two (atB_mem hk) (atB_mem hi) hc
      rw [hok] at this; cases this
theorem okD_nil (ids : List Int) (l : List Ctx) : okD ids l [] = ordOkG ids l := by
  cases ho : ordOkG ids l
  · simp [okD, argsD, ho]
  · have hs : spOk (joinK ids l) ids.length (loP ids []) (hiP ids []) = true := by
      refine spOk_iff.2 fun i _ => ?_
      have e1 : spLow (joinK ids l) ids.length (loP ids []) i ≤ 0 := maxF_most (Int.le_refl _) fun j _ _ => by
        have : loP ids [] j = 0 := lowB_none (by simp)
        omega
      have e2 : 0 ≤ spHigh (joinK ids l) ids.length (hiP ids []) i := minF_least (by omega) fun j _ _ => by
        have : hiP ids [] j = 999 := highB_none (by simp)
        omega
      omega
    simp [okD, argsD, ho, hs, validB]
/-- The law's own words on when nothing is blamed. -/
theorem blamed_told (h : Blamed ids l B O) : decide (O.length = 0) = (okD ids l B || (!(okD ids l [] && B.all fun b => decide (b.id ∈ ids)) || !validB B)) := by
  rw [okD_nil]
  cases ha : argsD ids l B
  · have hO : O = [] := by
      rcases h with ⟨rfl, _⟩ | ⟨_, _, _, h, _⟩
      · rfl
      · rw [ha] at h; cases h
    have hk : okD ids l B = false := by simp [okD, ha]
    rw [hO, hk]
    simp only [argsD] at ha
    cases h1 : ordOkG ids l
    · simp
    · cases h2 : validB B
      · simp
      · rw [h1, h2] at ha
        simp only [Bool.true_and] at ha
        simp [ha]
  · obtain ⟨a1, a2, a3⟩ := argsD_parts ha
    have a4 : (B.all fun b => decide (b.id ∈ ids)) = true := by
      simp only [List.all_eq_true, decide_eq_true_eq]; exact a3
    rw [a1, a2, a4]
    simp only [Bool.and_self, Bool.not_true, Bool.or_false]
    rcases h with ⟨rfl, h⟩ | ⟨i, k, rfl, _, hf⟩
    · rcases h with h | h
      · rw [ha] at h; cases h
      · rw [(none_ok ha).1 h]; rfl
    · cases hk : okD ids l B
      · rfl
      · have := (none_ok ha).2 hk _ _ hf.1 hf.2.1
        rw [hf.2.2.1] at this; cases this
/-- The bounds behind the second one that is blamed change nothing. -/
theorem first_take {i k : Nat} (ha : argsD ids l B = true) (h : FirstB ids l B i k) : Blamed ids l (B.take (k + 1)) [(i : Int), (k : Int)] := by
  obtain ⟨a1, a2, a3, a4, a5⟩ := h
  obtain ⟨b1, b2, b3⟩ := argsD_parts ha
  have hcl : ∀ i' k', i' < k' → k' ≤ k → clashP ids l (B.take (k + 1)) i' k' = clashP ids l B i' k' := fun i' k' h1 h2 => by
    simp only [clashP, atB_take (B := B) (show i' < k + 1 by omega), atB_take (B := B) (show k' < k + 1 by omega)]
  have hl : (B.take (k + 1)).length = k + 1 := by rw [List.length_take]; omega
  refine .inr ⟨i, k, rfl, ?_, a1, by omega, by rw [hcl i k a1 (Nat.le_refl _)]; exact a3, fun k' h1 h2 => ?_, fun i' k' h1 h2 h3 => ?_⟩
  · simp only [argsD, Bool.and_eq_true, List.all_eq_true, decide_eq_true_eq]
    exact ⟨b1, validB_sub b2 (List.take_sublist _ _), fun b hb => b3 b (List.mem_of_mem_take hb)⟩
  · rw [hcl i k' h1 (by omega)]; exact a4 k' h1 h2
  · rw [hcl i' k' h2 (by omega)]; exact a5 i' k' h1 h2 (by omega)
end
end Go.Proofs.Ytnkdpogplkomhaa
