/-
  What string(..) makes of a row of bytes.
-/
import Derived.Test.YtfkkpbfoipfekaaDoorW8
import Derived.Lib.SlBytesConst
namespace Go.Proofs.YtfkkpbfoipfekaaDoor
open Go.RowKit
/-- Bytes as a string. -/
def strOf (l : List Nat) : ByteArray := (l.map fun n : Nat => (n : Int)).foldl (fun r n => r.push (UInt8.ofNat n.toNat)) ByteArray.empty
theorem conv_row {w : World} {base n : Nat} {v : Value} {l : List Nat} (h : w.ownsRow base 5 1 v n (vals .u8 l)) (hp : 0 < n) : (convert 22 9 v).run Tryd.prog w = .ok (.string (strOf l)) w := by
  have hl : l.length = n := by have := h.1; rw [vals_length] at this; omega
  rcases h.2 with ⟨_, h0⟩ | ⟨p, cap, cur, rfl, _⟩
  · omega
  · have hc := h.cells (g := p) rfl
    rw [run_convert_bytes_string w 22 9 5 _ _ _ Tryd.underlying22 Tryd.underlying5 Tryd.underlying9]
    refine run_bytesToString w _ n cap (l.map fun n : Nat => (n : Int)) ?_
    have := run_loadCells_list (P := Tryd.prog) w ⟨p, 0, none⟩ (vals .u8 l) hc
    rw [vals_length, hl] at this
    rw [this]
    simp [vals]
theorem wpList_convertRun {P : Program} {ops : Array Oper} {rest : List Oper} {o : Oper} {a : Act} {w : World} {Q : Exit → Act → World → Prop} (hgd : o.guard = none) (s d : TypeId) (x : Operand) (ho : o.op = .convert s d x) (p v : Value) (hx : a.eval x = p)
    (hrun : (convert s d p).run P w = .ok v w) (h : wpList P ops Q rest (a.put o.dst v) w) : wpList P ops Q (o :: rest) a w :=
  wpList_plain hgd fun _ hK => by
    unfold Oper.wp execOp
    simp only [ho, hx, Sem.run_bind, hrun, Result.andThen_ok, Sem.run_pure]
    exact hK _ _ h
end Go.Proofs.YtfkkpbfoipfekaaDoor
