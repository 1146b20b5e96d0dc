/- A region that draws its order, whose first n operations only read: walked in the text's order. No function of the program. -/
import Derived.Test.YtjmbbepklofodaaTab
namespace Go.Proofs.Ytjmbbepklofodaa
open Go.RowKit

theorem region_still_tail3 {P : Program} {id : Nat} {Q : Exit → Act → World → Prop} {a : Act} {w : World} {l : List Oper} (n : Nat) (hm : P.follows .mixedOrders = true) (hB : Region.lexTailB .any l.toArray n = true)
    (h : ∀ W : World, (∀ p, W.cell? p = w.cell? p) → W.heap.size = w.heap.size → Below w.heap.size w W → wpStill P l.toArray W (fun a' => wpList P l.toArray Q (l.drop n) a' W) (l.take n) a) : (Code.region id l.toArray true).wp P Q a w :=
  wp_region_still_tail n hm hB (h (w.drewN 1) (fun _ => rfl) rfl (below_draws (Below.refl _ _) 1))
end Go.Proofs.Ytjmbbepklofodaa
