/- What the laws on digging need, as plain facts. -/
import Derived.Test.YtmcnjmflmpfjlaaBk
import Derived.Test.YtmcnjmflmpfjlaaOp
import Derived.Test.YtmcnjmflmpfjlaaPe
import Derived.Test.YtmcnjmflmpfjlaaCm
namespace Go.Proofs.Ytmcnjmflmpfjlaa
open Go.RowKit

theorem place_of {ids : List Int} (hv : validI ids = true) {k : Nat} (hk : k < ids.length) : placeI ids (ids.getD k 0) = k ∧ ids.getD k 0 ∈ ids := by
  have h1 : ids[k]? = some (ids.getD k 0) := by simp [hk]
  have hm := List.mem_of_getElem? h1
  obtain ⟨_, _, h4⟩ := placeI_at hm
  exact ⟨asc_eq hv h4 h1, hm⟩
theorem map_place {ids : List Int} (hv : validI ids = true) {p : List Nat} (hp : ∀ a ∈ p, a < ids.length) : (numP ids p).map (placeI ids) = p := by
  unfold numP
  rw [List.map_map]
  conv => rhs; rw [← List.map_id p]
  refine List.map_congr_left fun a ha => ?_
  exact (place_of hv (hp a ha)).1
theorem digI_num {ids : List Int} (hv : validI ids = true) (f : Nat → Nat → Bool) {p : List Nat} (hp : ∀ a ∈ p, a < ids.length) (d : Nat → Bool) : digI f ids d (numP ids p) = seqB f ids.length d p := by
  rw [digI_seq, map_place hv hp]
  have : (numP ids p).all (fun x => decide (x ∈ ids)) = true := by
    rw [List.all_eq_true]
    intro x hx
    obtain ⟨a, ha, rfl⟩ := List.mem_map.1 hx
    exact decide_eq_true (place_of hv (hp a ha)).2
  rw [this, Bool.true_and]
section
variable {ids : List Int} {l : List Ctx}
theorem digPs_seq (ho : ordOkG ids l = true) : seqB (ordF ids l) ids.length (fun _ => false) (digPs ids l) = true := digP_seq (ordF_irr ho) (ordF_tr (ordOk_ok ho)) ids.length _ left_none
theorem digPs_in (ho : ordOkG ids l = true) : (∀ a ∈ digPs ids l, a < ids.length) ∧ (digPs ids l).Nodup := by
  obtain ⟨h1, h2⟩ := seq_apart (digPs_seq ho)
  exact ⟨fun a ha => (h1 a ha).1, h2.imp fun h => h.1⟩
theorem digG_ok (ho : ordOkG ids l = true) : digG ids l = numP ids (digPs ids l) := by unfold digG; rw [ho]; rfl
theorem digG_full (ho : ordOkG ids l = true) : (digG ids l).length = ids.length := by rw [digG_ok ho, numP_len, digPs_len]
theorem digG_has (ho : ordOkG ids l = true) {x : Int} (hx : x ∈ ids) : x ∈ digG ids l := by
  obtain ⟨h1, h2⟩ := digPs_in ho
  obtain ⟨k, hk, rfl⟩ := List.mem_iff_getElem.1 hx
  have hkp : k ∈ digPs ids l := Classical.byContradiction fun hno => by
    have := nodup_le ids.length (k :: digPs ids l) (List.nodup_cons.2 ⟨hno, h2⟩) fun y hy => by
      rcases List.mem_cons.1 hy with rfl | hy
      · exact hk
      · exact h1 y hy
    rw [List.length_cons, digPs_len] at this
    omega
  rw [digG_ok ho]
  exact List.mem_map.2 ⟨k, hkp, by simp [hk]⟩
theorem digG_valid (ho : ordOkG ids l = true) : digOkG ids l (digG ids l) = true := by
  unfold digOkG
  rw [ho, Bool.true_and, digG_full ho, decide_eq_true rfl, Bool.true_and, digG_ok ho, digI_num (okG_parts (ordOk_ok ho)).1 _ (digPs_in ho).1]
  exact digPs_seq ho
/-- Two neighbours with the greater number first can't be exchanged. -/
theorem digG_first (ho : ordOkG ids l = true) {k : Nat} {x y : Int} (hx : (digG ids l)[k]? = some x) (hy : (digG ids l)[k + 1]? = some y) (hyx : ¬ x < y) : digOkG ids l (((digG ids l).set k y).set (k + 1) x) = false := by
  have hv := (okG_parts (ordOk_ok ho)).1
  obtain ⟨h1, h2⟩ := digPs_in ho
  have hk : k + 1 < (digPs ids l).length := by
    have := (List.getElem?_eq_some_iff.1 hy).1
    rw [digG_ok ho, numP_len] at this
    exact this
  have ha : (digPs ids l)[k]? = some (digPs ids l)[k] := List.getElem?_eq_getElem (by omega)
  have hb : (digPs ids l)[k + 1]? = some (digPs ids l)[k + 1] := List.getElem?_eq_getElem hk
  obtain ⟨a, hae⟩ : ∃ a, a = (digPs ids l)[k] := ⟨_, rfl⟩
  obtain ⟨b, hbe⟩ : ∃ b, b = (digPs ids l)[k + 1] := ⟨_, rfl⟩
  rw [← hae] at ha
  rw [← hbe] at hb
  have han := h1 a (List.mem_of_getElem? ha)
  have hbn := h1 b (List.mem_of_getElem? hb)
  have ex : x = ids.getD a 0 := by
    rw [digG_ok ho] at hx
    unfold numP at hx
    rw [List.getElem?_map, ha] at hx
    injection hx with hx
    exact hx.symm
  have ey : y = ids.getD b 0 := by
    rw [digG_ok ho] at hy
    unfold numP at hy
    rw [List.getElem?_map, hb] at hy
    injection hy with hy
    exact hy.symm
  have hab : a ≠ b := fun e => by
    have := (List.getElem?_inj (by omega : k < (digPs ids l).length) h2).1 (ha.trans (by rw [e]; exact hb.symm))
    omega
  have hlt : b < a := by
    refine Classical.byContradiction fun hn => hyx ?_
    have e1 : ids[a]? = some x := by rw [ex]; simp [han]
    have e2 : ids[b]? = some y := by rw [ey]; simp [hbn]
    exact asc_lt hv e1 e2 (by omega)
  have hfst : seqB (ordF ids l) ids.length (fun _ => false) ((digPs ids l).take k ++ b :: a :: (digPs ids l).drop (k + 2)) = false := digP_first (f := ordF ids l) (n := ids.length) (m := ids.length) (d := fun _ => false) ha hb hlt (a :: (digPs ids l).drop (k + 2))
  have hq : ((digG ids l).set k y).set (k + 1) x = numP ids ((digPs ids l).take k ++ b :: a :: (digPs ids l).drop (k + 2)) := by
    have hs : ((digPs ids l).set k b).set (k + 1) a = (digPs ids l).take k ++ b :: a :: (digPs ids l).drop (k + 2) := by
      refine List.ext_getElem? fun i => ?_
      rw [List.getElem?_set, List.getElem?_set, List.getElem?_append, List.length_set, List.length_take, Nat.min_eq_left (by omega)]
      by_cases e1 : k + 1 = i
      · subst e1
        rw [if_pos rfl, if_pos hk, if_neg (by omega), show k + 1 - k = 1 from by omega]
        rfl
      · rw [if_neg e1]
        by_cases e2 : k = i
        · subst e2
          rw [if_pos rfl, if_pos (by omega), if_neg (by omega), Nat.sub_self]
          rfl
        · rw [if_neg e2]
          by_cases h : i < k
          · rw [if_pos h, List.getElem?_take, if_pos h]
          · obtain ⟨j, hj⟩ : ∃ j, i - k = j + 2 := ⟨i - k - 2, by omega⟩
            rw [if_neg h, hj, List.getElem?_cons_succ, List.getElem?_cons_succ, List.getElem?_drop]
            congr 1
            omega
    rw [digG_ok ho, ← hs]
    unfold numP
    rw [List.map_set, List.map_set, ex, ey]
  have hin : ∀ c ∈ (digPs ids l).take k ++ b :: a :: (digPs ids l).drop (k + 2), c < ids.length := by
    intro c hc
    rcases List.mem_append.1 hc with hc | hc
    · exact h1 c (List.mem_of_mem_take hc)
    · rcases List.mem_cons.1 hc with rfl | hc
      · exact hbn
      · rcases List.mem_cons.1 hc with rfl | hc
        · exact han
        · exact h1 c (List.mem_of_mem_drop hc)
  unfold digOkG
  rw [hq, digI_num hv _ hin, hfst]
  simp
/-- In a valid order, none comes behind one that lies below it. -/
theorem dig_apart {order : List Int} (h : digOkG ids l order = true) {i k : Nat} {x y : Int} (hki : k < i) (hx : order[i]? = some x) (hy : order[k]? = some y) : aboveG ids l x y = false ∧ x ≠ y := by
  unfold digOkG at h
  rw [Bool.and_eq_true, Bool.and_eq_true] at h
  obtain ⟨ho, _, h3⟩ := h
  rw [digI_seq, Bool.and_eq_true, List.all_eq_true] at h3
  obtain ⟨h4, h5⟩ := h3
  obtain ⟨_, h6⟩ := seq_apart h5
  have hxm := of_decide_eq_true (h4 x (List.mem_of_getElem? hx))
  have hym := of_decide_eq_true (h4 y (List.mem_of_getElem? hy))
  have hpx : (order.map (placeI ids))[i]? = some (placeI ids x) := by rw [List.getElem?_map, hx]; rfl
  have hpy : (order.map (placeI ids))[k]? = some (placeI ids y) := by rw [List.getElem?_map, hy]; rfl
  obtain ⟨hil, hie⟩ := List.getElem?_eq_some_iff.1 hpx
  obtain ⟨hkl, hke⟩ := List.getElem?_eq_some_iff.1 hpy
  have h7 := List.pairwise_iff_getElem.1 h6 k i hkl hil hki
  rw [hie, hke] at h7
  obtain ⟨h8, h9⟩ := h7
  obtain ⟨_, hx2, hx3⟩ := placeI_at hxm
  obtain ⟨_, hy2, hy3⟩ := placeI_at hym
  refine ⟨?_, fun e => h8 (by rw [e])⟩
  have e1 : ids.getD (placeI ids x) 0 = x := by simp [hx3]
  have e2 : ids.getD (placeI ids y) 0 = y := by simp [hy3]
  have h10 : upG ids l x y = false := by
    unfold ordF at h9
    rw [decide_eq_true hx2, decide_eq_true hy2, e1, e2] at h9
    simpa using h9
  simp [aboveG, h10]
theorem dig_len {order : List Int} (h : digOkG ids l order = true) : order.length = ids.length := by
  unfold digOkG at h
  rw [Bool.and_eq_true, Bool.and_eq_true] at h
  exact of_decide_eq_true h.2.1
theorem cnt_ok (h : ¬ cntG ids l < 0) : ordOkG ids l = true ∧ ids.length ≤ 6 ∧ cntG ids l = (countP (ordF ids l) ids.length ids.length fun _ => false : Nat) := by
  unfold cntG at h ⊢
  cases ho : ordOkG ids l
  · rw [ho] at h; simp at h
  · by_cases h6 : ids.length ≤ 6
    · rw [decide_eq_true h6]
      exact ⟨rfl, h6, rfl⟩
    · rw [ho, decide_eq_false h6] at h
      simp at h
theorem cnt_range (h : ¬ cntG ids l < 0) : 1 ≤ cntG ids l ∧ cntG ids l ≤ (factN ids.length : Nat) := by
  obtain ⟨ho, _, he⟩ := cnt_ok h
  rw [he]
  have h1 := count_pos (ordF_irr ho) (ordF_tr (ordOk_ok ho)) ids.length (fun _ => false) left_none
  have h2 := count_le (f := ordF ids l) ids.length (fun _ => false) (left_none (n := ids.length))
  omega
end
/-- Without relations all orders are possible. -/
theorem none_ok {ids : List Int} (hv : validI ids = true) : okG ids [] = true := by
  unfold okG
  rw [hv]
  rfl
theorem none_up {ids : List Int} (hv : validI ids = true) {x y : Int} (hx : x ∈ ids) (hy : y ∈ ids) : upG ids [] x y = false := by
  rw [← Bool.not_eq_true]
  intro hu
  obtain ⟨r, hr, _⟩ := upG_first (none_ok hv) hx hy hu
  cases hr
theorem none_ord {ids : List Int} (hv : validI ids = true) : ordOkG ids [] = true := ordOk_of (none_ok hv) fun _ _ hk => none_up hv (List.mem_of_getElem? hk) (List.mem_of_getElem? hk)
theorem cnt_none {ids : List Int} (hv : validI ids = true) (h6 : ids.length ≤ 6) : cntG ids [] = (factN ids.length : Nat) := by
  unfold cntG
  rw [none_ord hv, decide_eq_true h6]
  have h : ∀ i j, i < ids.length → j < ids.length → ordF ids [] i j = false := fun i j hi hj => by
    unfold ordF
    rw [decide_eq_true hi, decide_eq_true hj, none_up hv (by simp [hi]) (by simp [hj])]
    rfl
  rw [count_all h ids.length _ left_none]
  rfl
end Go.Proofs.Ytmcnjmflmpfjlaa
