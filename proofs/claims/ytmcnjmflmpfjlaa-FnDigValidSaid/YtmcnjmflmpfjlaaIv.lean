/- Whether the program finds an order of digging valid. -/
import Derived.Test.YtmcnjmflmpfjlaaBk
import Derived.Test.YtmcnjmflmpfjlaaVr
import Derived.Test.YtmcnjmflmpfjlaaRa
import Derived.Test.YtmcnjmflmpfjlaaUc
namespace Go.Proofs.Ytmcnjmflmpfjlaa
open Go.RowKit

theorem bit_dug (n : Nat) (d : Nat → Bool) {p : Nat} (hp : p < n) : bitN n (dugB d p) = bitN n d ||| 2 ^ p := by
  rw [← bitN_one hp, bitN_or]
  rfl
set_option maxHeartbeats 4000000 in
set_option maxRecDepth 100000 in
theorem iDigValid_any (A B S : Option Addr) (ca cb cs : Nat) (ids : List Int) (l : List Ctx) (order : List Int) (w : World) (ha : Reads w w.heap.size 1 A ids.length (cellsI ids)) (hb : Reads w w.heap.size 3 B l.length (cellsC l)) (hs : Reads w w.heap.size 1 S order.length (cellsI order)) (hn : ids.length ≤ 1000000000) (hl : l.length ≤ 1000000000) :
    Calls Try.prog 34 #[.slice A ids.length ca, .slice B l.length cb, .slice S order.length cs] w fun e w2 => e = .returned (.bool (digOkG ids l order)) ∧ Below w.heap.size w w2 := by
  have hv := iVRows_any A B ca cb ids l w ha hb hn hl
  obtain ⟨o, ho⟩ : ∃ o, ordOkG ids l = o := ⟨_, rfl⟩
  rw [ho] at hv
  cases o
  · have HV := Lib.hid hv
    clear hv
    go_enter Try.func34, Try.ntmps34
    go_wp2_with (go_at_call 71; go_must (refine HV.out.mono ?_); rintro e w2 ⟨v2, rfl, hb2, _⟩)
    go_ret
    exact ⟨ret_bool (by simp [digOkG, ho]), hb2⟩
  · rw [vN_ok ho] at hv
    have hok : okG ids l = true := ordOk_ok ho
    have hnn : ids.length ≤ 12 := validO_len (okG_parts hok).1
    by_cases hlen : order.length = ids.length
    · have hdig : digOkG ids l order = bakI (ordF ids l) ids (fun _ => false) order := by
        rw [bak_dig (ordF_irr ho) hlen]
        simp [digOkG, ho, hlen]
      rw [hdig]
      obtain ⟨F, hF⟩ : ∃ F, F = ordF ids l := ⟨_, rfl⟩
      rw [← hF] at hv ⊢
      rw [hlen] at hs ⊢
      have HV := Lib.hid (And.intro hv (And.intro ha (And.intro hs hlen)))
      clear hv ha hs hb ho hok hlen hdig hF
      go_enter Try.func34, Try.ntmps34
      go_wp2_with (go_at_call 71; go_must (refine HV.out.1.mono ?_); rintro e w2 ⟨v2, rfl, hb2, ho2⟩
                   obtain ⟨A2, c2, hv2, _, hr2⟩ := Reads.of_own ho2
                   subst hv2
                   have H2 := Lib.hid (And.intro hb2 hr2)
                   clear hb2 ho2 hr2)
      go_loop [9, 30] (fun v i => ∃ k : Nat, k ≤ ids.length ∧ i = .int .i64 k ∧ v = .int .u16 (bitN ids.length (dOf ids (order.take k)) : Nat) ∧ bakI F ids (fun _ => false) order = bakI F ids (dOf ids (order.take k)) (order.drop k)) (fun _ i => ids.length - (intOf i).toNat)
      case atStart => exact ⟨0, Nat.zero_le _, rfl, by rw [List.take_zero, show dOf ids [] = fun _ => false from rfl, bitN_zero]; rfl, rfl⟩
      case round =>
        obtain ⟨k, hk, rfl, rfl, hbk⟩ := hrel
        by_cases hlt : k < ids.length
        · have hki : (k : Int) < (ids.length : Int) := by omega
          obtain ⟨x, hx⟩ : ∃ x, order[k]? = some x := ⟨_, List.getElem?_eq_getElem (by have := HV.out.2.2.2; omega)⟩
          obtain ⟨b3, off3, hA4, hbb3, hc3⟩ := (HV.out.2.2.1.step H2.out.1).ints (by omega)
          subst hA4
          have f0 := hc3 k _ hx
          have hdn := dOf_next (ids := ids) hx
          rw [drop_next hx, bakI] at hbk
          have hix := indexI_any A ca ids x w2 (HV.out.2.1.step H2.out.1) (by omega)
          by_cases hin : x ∈ ids
          · obtain ⟨hp1, hp2, hp3⟩ := placeI_at hin
            obtain ⟨p, hp⟩ : ∃ p, p = placeI ids x := ⟨_, rfl⟩
            rw [← hp] at hp1 hp2 hp3 hdn hbk
            rw [decide_eq_true hin, Bool.true_and] at hbk
            rw [hp1] at hix
            obtain ⟨D, hD⟩ : ∃ D, D = dOf ids (order.take k) := ⟨_, rfl⟩
            rw [← hD] at hdn hbk ⊢
            have hr2 : bitN ids.length D < 65536 := bitN_16 _ (by omega)
            have hdug := bit_dug ids.length D hp2
            have hto := fun (t : Bool) (ht : D p = t) (W : World) => has_to (bitN ids.length D) p t hr2 (by omega) (by rw [bitN_test, decide_eq_true hp2, ht]; rfl) W
            have hany := any_and ids.length (F p) D
            have hbf : bakF F ids.length D p = (!D p && !((List.range ids.length).any fun k => F p k && D k)) := rfl
            obtain ⟨z, hz⟩ : ∃ z, z = bitN ids.length (F p) := ⟨_, rfl⟩
            have hz2 : z < 65536 := by rw [hz]; exact bitN_16 _ (by omega)
            obtain ⟨b5, off5, hA5, hbb5, hc5⟩ := H2.out.2.rows (by omega)
            subst hA5
            have f1 := hc5 p z (by rw [rowsN_at _ hp2, hz])
            have h4 := or_is (bitN ids.length D) (2 ^ p) hr2 (pow_16 (by omega))
            have h3 := shl_is p (by omega)
            obtain ⟨r, hr⟩ : ∃ r, r = bitN ids.length D := ⟨_, rfl⟩
            rw [← hr] at hr2 hdug hto hany h4 ⊢
            rw [← hz] at hany
            have h5 := and_is z r hz2 hr2
            obtain ⟨s, hs⟩ : ∃ s, s = z &&& r := ⟨_, rfl⟩
            rw [← hs] at hany h5
            obtain ⟨q, hq⟩ : ∃ q, q = 2 ^ p := ⟨_, rfl⟩
            rw [← hq] at h3 h4 hdug
            obtain ⟨u, hu⟩ : ∃ u, u = r ||| q := ⟨_, rfl⟩
            rw [← hu] at h4 hdug
            have hpi : (p : Int) < (ids.length : Int) := by omega
            have hpos : decide ((p : Int) < 0) = false := by simp
            have HX := Lib.hid (And.intro hix (And.intro hbk (And.intro hdn hdug)))
            clear hx hc3 hc5 hin hp hp1 hp3 hix hbk hdn hdug hD hr hs hq hu hz
            cases hDp : D p
            · rw [hDp] at hbf
              have hto2 := hto false hDp
              have HT := Lib.hid hto2
              obtain ⟨t, ht⟩ : ∃ t, t = (List.range ids.length).any fun k => F p k && D k := ⟨_, rfl⟩
              rw [← ht] at hany hbf
              have HB := Lib.hid hbf
              clear hto hto2 hbf hDp ht
              cases t
              · go_wp2_with (first
                  | (go_at_call 68; go_must (refine HX.out.1.mono ?_); rintro e w9 ⟨rfl, rfl⟩)
                  | (go_at_call 69; go_must (refine (HT.out _).mono ?_); rintro e w9 ⟨rfl, rfl⟩))
                go_round
                case rel => exact ⟨k + 1, by omega, by go_num, by rw [HX.out.2.2.1, HX.out.2.2.2], by rw [HX.out.2.1, HX.out.2.2.1, HB.out]; rfl⟩
                case measure => simp [intOf]; omega
              · go_wp2_with (first
                  | (go_at_call 68; go_must (refine HX.out.1.mono ?_); rintro e w9 ⟨rfl, rfl⟩)
                  | (go_at_call 69; go_must (refine (HT.out _).mono ?_); rintro e w9 ⟨rfl, rfl⟩))
                go_ret
                exact ⟨ret_bool (by rw [HX.out.2.1, HB.out]; rfl), H2.out.1⟩
            · rw [hDp] at hbf
              have hto2 := hto true hDp
              have HT := Lib.hid hto2
              have HB := Lib.hid hbf
              clear hto hto2 hbf hDp hany
              go_wp2_with (first
                | (go_at_call 68; go_must (refine HX.out.1.mono ?_); rintro e w9 ⟨rfl, rfl⟩)
                | (go_at_call 69; go_must (refine (HT.out _).mono ?_); rintro e w9 ⟨rfl, rfl⟩))
              go_ret
              exact ⟨ret_bool (by rw [HX.out.2.1, HB.out]; rfl), H2.out.1⟩
          · have hfn := findI_mem ids x
            rw [decide_eq_false hin] at hfn hbk
            obtain ⟨z, hz⟩ : ∃ z, findI ids x = z := ⟨_, rfl⟩
            rw [hz] at hix hfn
            have hz0 : z < 0 := by have := of_decide_eq_false hfn; omega
            have e0 : decide (z < 0) = true := decide_eq_true hz0
            have HX := Lib.hid (And.intro hix hbk)
            clear hx hc3 hin hz hfn hix hbk hdn hz0
            go_wp2_with (go_at_call 68; go_must (refine HX.out.1.mono ?_); rintro e w9 ⟨rfl, rfl⟩)
            go_ret
            exact ⟨ret_bool (by rw [HX.out.2]; rfl), H2.out.1⟩
        · have hke : k = order.length := by have := HV.out.2.2.2; omega
          have HX := Lib.hid (And.intro hbk hke)
          clear hbk hke
          go_wp2_with fail
          go_ret
          refine ⟨ret_bool ?_, H2.out.1⟩
          rw [HX.out.1, HX.out.2, List.drop_length, bakI]
    · have hne : ((order.length : Int) != (ids.length : Int)) = true := by rw [bne_iff_ne]; omega
      have HV := Lib.hid (And.intro hv hlen)
      clear hv hlen
      go_enter Try.func34, Try.ntmps34
      go_wp2_with (go_at_call 71; go_must (refine HV.out.1.mono ?_); rintro e w2 ⟨v2, rfl, hb2, _⟩)
      go_ret
      exact ⟨ret_bool (by simp [digOkG, HV.out.2]), hb2⟩
end Go.Proofs.Ytmcnjmflmpfjlaa
