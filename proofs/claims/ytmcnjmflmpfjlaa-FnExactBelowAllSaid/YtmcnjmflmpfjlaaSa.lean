/- What the model's lists of what lies above or below a set are. -/
import Derived.Test.YtmcnjmflmpfjlaaLm
import Derived.Test.YtmcnjmflmpfjlaaSs
namespace Go.Proofs.Ytmcnjmflmpfjlaa
open Go.RowKit

set_option maxHeartbeats 1600000 in
set_option maxRecDepth 100000 in
theorem sAbvAll_any (A B S : Option Addr) (ca cb cs : Nat) (ids : List Int) (l : List Ctx) (set : List Int) (w : World) (ha : Reads w w.heap.size 1 A ids.length (cellsI ids)) (hb : Reads w w.heap.size 3 B l.length (cellsC l)) (hs : Reads w w.heap.size 1 S set.length (cellsI set)) (hn : ids.length ≤ 1000000000) (hl : l.length ≤ 1000000000) (hm : set.length ≤ 1000000000) :
    Calls Try.prog 22 #[.slice A ids.length ca, .slice B l.length cb, .slice S set.length cs] w (IntsS w (setG ids l set false)) := by
  have hok := sOk_any A B ca cb ids l w ha hb (by omega) (by omega)
  obtain ⟨o, ho⟩ : ∃ o, okG ids l = o := ⟨_, rfl⟩
  rw [ho] at hok
  cases o
  · have HO := Lib.hid hok
    have HR : Hid (setG ids l set false = []) := by show _ = _; unfold setG; simp [ho]
    clear hok ho ha hb hs
    go_enter Try.func22, Try.ntmps22
    go_wp2_with (go_at_call 60; go_must (refine HO.out.mono ?_); rintro e w2 ⟨rfl, k2⟩)
    go_ret
    exact intsS_empty HR.out k2 rfl
  · obtain ⟨v, hv⟩ : ∃ v, validI set = v := ⟨_, rfl⟩
    have hiv := fun (W : World) (hW : Below w.heap.size w W) => sIds_any S cs set W (hs.step hW) (by omega)
    rw [hv] at hiv
    cases v
    · have HO := Lib.hid (And.intro hok hiv)
      have HR : Hid (setG ids l set false = []) := by show _ = _; unfold setG; simp [hv]
      clear hok ho ha hb hs hiv hv
      go_enter Try.func22, Try.ntmps22
      go_wp2_with (first
        | (go_at_call 60; go_must (refine HO.out.1.mono ?_); rintro e w2 ⟨rfl, k2⟩)
        | (go_at_call 61; go_must (refine (HO.out.2 _ k2).mono ?_); rintro e w3 ⟨rfl, k3⟩))
      go_ret
      exact intsS_empty HR.out (below_step k2 k3) rfl
    · have h12 : set.length ≤ 12 := validO_len hv
      have HO := Lib.hid (And.intro hok (And.intro hiv (And.intro ha (And.intro hb (And.intro hs ho)))))
      have HR : Hid (setG ids l set false = linkG ids l set false) := by show _ = _; unfold setG; simp [hv, ho]
      clear hok ho ha hb hs hiv hv
      go_enter Try.func22, Try.ntmps22
      go_wp2_with (first
        | (go_at_call 60; go_must (refine HO.out.1.mono ?_); rintro e w2 ⟨rfl, k2⟩)
        | (go_at_call 61; go_must (refine (HO.out.2.1 _ k2).mono ?_); rintro e w3 ⟨rfl, k3⟩
           have k23 := below_step k2 k3)
        | (go_at_call 62; go_must (refine (sLinked_any A B S ca cb cs ids l set false _ (HO.out.2.2.1.step k23) (HO.out.2.2.2.1.step k23) (HO.out.2.2.2.2.1.step k23) (by omega) HO.out.2.2.2.2.2).mono ?_); rintro e w4 ⟨v4, rfl, k4, o4⟩))
      go_ret
      rw [HR.out]
      exact ⟨_, rfl, below_step k23 k4, own_less o4 k23.size⟩
set_option maxHeartbeats 1600000 in
set_option maxRecDepth 100000 in
theorem sBlwAll_any (A B S : Option Addr) (ca cb cs : Nat) (ids : List Int) (l : List Ctx) (set : List Int) (w : World) (ha : Reads w w.heap.size 1 A ids.length (cellsI ids)) (hb : Reads w w.heap.size 3 B l.length (cellsC l)) (hs : Reads w w.heap.size 1 S set.length (cellsI set)) (hn : ids.length ≤ 1000000000) (hl : l.length ≤ 1000000000) (hm : set.length ≤ 1000000000) :
    Calls Try.prog 30 #[.slice A ids.length ca, .slice B l.length cb, .slice S set.length cs] w (IntsS w (setG ids l set true)) := by
  have hok := sOk_any A B ca cb ids l w ha hb (by omega) (by omega)
  obtain ⟨o, ho⟩ : ∃ o, okG ids l = o := ⟨_, rfl⟩
  rw [ho] at hok
  cases o
  · have HO := Lib.hid hok
    have HR : Hid (setG ids l set true = []) := by show _ = _; unfold setG; simp [ho]
    clear hok ho ha hb hs
    go_enter Try.func30, Try.ntmps30
    go_wp2_with (go_at_call 60; go_must (refine HO.out.mono ?_); rintro e w2 ⟨rfl, k2⟩)
    go_ret
    exact intsS_empty HR.out k2 rfl
  · obtain ⟨v, hv⟩ : ∃ v, validI set = v := ⟨_, rfl⟩
    have hiv := fun (W : World) (hW : Below w.heap.size w W) => sIds_any S cs set W (hs.step hW) (by omega)
    rw [hv] at hiv
    cases v
    · have HO := Lib.hid (And.intro hok hiv)
      have HR : Hid (setG ids l set true = []) := by show _ = _; unfold setG; simp [hv]
      clear hok ho ha hb hs hiv hv
      go_enter Try.func30, Try.ntmps30
      go_wp2_with (first
        | (go_at_call 60; go_must (refine HO.out.1.mono ?_); rintro e w2 ⟨rfl, k2⟩)
        | (go_at_call 61; go_must (refine (HO.out.2 _ k2).mono ?_); rintro e w3 ⟨rfl, k3⟩))
      go_ret
      exact intsS_empty HR.out (below_step k2 k3) rfl
    · have h12 : set.length ≤ 12 := validO_len hv
      have HO := Lib.hid (And.intro hok (And.intro hiv (And.intro ha (And.intro hb (And.intro hs ho)))))
      have HR : Hid (setG ids l set true = linkG ids l set true) := by show _ = _; unfold setG; simp [hv, ho]
      clear hok ho ha hb hs hiv hv
      go_enter Try.func30, Try.ntmps30
      go_wp2_with (first
        | (go_at_call 60; go_must (refine HO.out.1.mono ?_); rintro e w2 ⟨rfl, k2⟩)
        | (go_at_call 61; go_must (refine (HO.out.2.1 _ k2).mono ?_); rintro e w3 ⟨rfl, k3⟩
           have k23 := below_step k2 k3)
        | (go_at_call 62; go_must (refine (sLinked_any A B S ca cb cs ids l set true _ (HO.out.2.2.1.step k23) (HO.out.2.2.2.1.step k23) (HO.out.2.2.2.2.1.step k23) (by omega) HO.out.2.2.2.2.2).mono ?_); rintro e w4 ⟨v4, rfl, k4, o4⟩))
      go_ret
      rw [HR.out]
      exact ⟨_, rfl, below_step k23 k4, own_less o4 k23.size⟩
end Go.Proofs.Ytmcnjmflmpfjlaa
