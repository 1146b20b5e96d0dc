/- What the model's matrix returns. -/
import Derived.Test.YtjkjnicgbfpjiaaMw
import Derived.Test.YtjkjnicgbfpjiaaMp
import Derived.Test.YtjkjnicgbfpjiaaC2
namespace Go.Proofs.Ytjkjnicgbfpjiaa
open Go.RowKit

set_option maxHeartbeats 800000 in
set_option maxRecDepth 100000 in
theorem sMatrixOf_any (A B : Option Addr) (ca cb : Nat) (ids : List Int) (l : List Ctx) (w : World) (ha : Reads w w.heap.size 1 A ids.length (cellsI ids)) (hb : Reads w w.heap.size 3 B l.length (cellsC l)) (hn : ids.length ≤ 1000000000) (hl : l.length ≤ 1000000000) :
    Calls Try.prog 19 #[.slice A ids.length ca, .slice B l.length cb] w (PairR w (matS ids l) (ordOkG ids l)) := by
  have hov := sOrdValid_any A B ca cb ids l w ha hb hn hl
  cases ho : ordOkG ids l
  · rw [ho] at hov
    have HE := Lib.hid (matS_no ho)
    have HO := Lib.hid hov
    clear hov ho
    go_enter Try.func19, Try.ntmps19
    go_wp2_with (go_at_call 35; go_must (refine HO.out.mono ?_); rintro e w2 ⟨rfl, k2⟩)
    go_ret2
    exact ⟨_, rfl, k2.alloc k2.size _, by rw [HE.out]; exact own_lit k2.size rfl⟩
  · rw [ho] at hov
    have HE := Lib.hid (matS_ok ho)
    have hok := ordOk_ok ho
    have HO := Lib.hid (And.intro hov hok)
    clear hov ho hok
    go_enter Try.func19, Try.ntmps19
    go_wp2_with (first
      | (go_at_call 35; go_must (refine HO.out.1.mono ?_); rintro e w2 ⟨rfl, k2⟩)
      | (go_at_call 52; go_must (refine (sMat_any _ _ _ _ ids l _ (ha.step k2) (hb.step k2) HO.out.2).mono ?_); rintro e w3 ⟨v3, rfl, k3, o3⟩))
    go_ret2
    exact ⟨_, rfl, below_step k2 k3, by rw [HE.out]; exact own_less o3 k2.size⟩
end Go.Proofs.Ytjkjnicgbfpjiaa
