/-
  The document's own sum as an operation of a region that draws its order.
-/
import Derived.Test.YtfkkpbfoipfekaaDoorR5
import Derived.Test.YtfkkpbfoipfekaaDoorCut
namespace Go.Proofs.YtfkkpbfoipfekaaDoor
open Go.RowKit
theorem enter11 (vs : Array Value) (w : World) : (callFunc 16 vs).run Tryd.prog w = .ok (.enter 16 vs) w := by kernel_rfl
theorem ob_ref {ops : Array Oper} {a0 : Act} {k : Nat → Kd} {w0 : World} {Q : Exit → Act → World → Prop} {o : Oper} {i : Nat} (A : At ops a0 k i o) (x : Operand) (ts : Array TypeId) (A' : Option Addr) (c : Nat) (l : List Nat) (hop : o.op = .call { callee := .value (.func 16), args := #[x], argTypes := ts })
    (hx : ∀ listed a w, Rg ops a0 (Rw w0) (fun i => (k i).is) listed a w → (∀ e ∈ o.after, Region.binds .any e = true → listed.getD e.on false = true) → a.eval x = .slice A' l.length c)
    (hki : k i = .row (Sha.sum l)) (hn : A' = none → c = 0) (hrd : ∀ w, Rw w0 w → RdB w w.heap.size A' l) (hb : Sha.Bs l) (hl : l.length ≤ 400) : Obl Tryd.prog ops Q a0 (Rw w0) (fun i => (k i).is) i o :=
  fun listed a w h hd K hK => by
    have e := hx listed a w h hd
    refine o_call 16 _ ts hop #[.slice A' l.length c] (by simp only [List.map_toArray, List.map_cons, List.map_nil, e]) (enter11 _ _) (A.hg.wanted h hd) ((rsum_any w A' c l (hrd w h.world) hn hb hl).mono ?_)
    rintro e w' ⟨v, rfl, hown, hb'⟩
    exact ⟨v, rfl, hK _ _ (A.fin h hb' (by rw [hki]; exact ⟨_, hown⟩))⟩
/-- Bytes that were readable stay so in each world that the region passes through. -/
theorem RdB.inRegion {w w1 w' : World} {A : Option Addr} {l : List Nat} (h : RdB w w.heap.size A l) (hb : Below w.heap.size w w1) (hr : Rw w1.drew w') : RdB w' w'.heap.size A l :=
  ((h.below hb).below (Below.trans ((Below.refl w.heap.size w1).drew) (hr.mono (show w.heap.size ≤ w1.heap.size from hb.size)))).more (Nat.le_trans (show w.heap.size ≤ w1.heap.size from hb.size) hr.size)
end Go.Proofs.YtfkkpbfoipfekaaDoor
