/-
  What the document's two tables are.
-/
import Derived.Test.YtfkkpbfoipfekaaDoorReg4
namespace Go.Proofs.YtfkkpbfoipfekaaDoor
open Go.RowKit
theorem wpList_buildSliceRun {P : Program} {ops : Array Oper} {rest : List Oper} {o : Oper} {a : Act} {w w' : World} {Q : Exit → Act → World → Prop} (hgd : o.guard = none) (t : TypeId) (n : Nat) (parts : Array (Nat × Operand)) (ho : o.op = .buildSlice t n parts) (v : Value)
    (hrun : (Instr.buildSlice t n (parts.map fun (i, x) => (i, a.eval x))).run P w = .ok v w') (h : wpList P ops Q rest (a.put o.dst v) w') : wpList P ops Q (o :: rest) a w :=
  wpList_plain hgd fun _ hK => by
    unfold Oper.wp execOp
    simp only [ho, Sem.run_bind, hrun, Result.andThen_ok, Sem.run_pure]
    exact hK _ _ h
set_option maxRecDepth 100000
set_option maxHeartbeats 400000 in
theorem keys_any (w : World) : Calls Tryd.prog 24 #[] w fun e w' => e = .returned (.slice (some ⟨w.heap.size, 0, none⟩) 64 64) ∧ w.alloc (.cells (Vs .i64 Sha.K) 3) = w' := by
  go_enter Tryd.func24, Tryd.ntmps24
  go_wp2_with (refine wpList_buildSliceRun rfl 46 64 _ rfl (.slice (some ⟨w.heap.size, 0, none⟩) 64 64) (w' := w.alloc (.cells (Vs .i64 Sha.K) 3)) (by kernel_rfl) ?_)
  go_ret
  exact ⟨rfl, rfl⟩
set_option maxHeartbeats 400000 in
theorem first_any (w : World) : Calls Tryd.prog 25 #[] w fun e w' => e = .returned (.slice (some ⟨w.heap.size, 0, none⟩) 8 8) ∧ w.alloc (.cells (Vs .i64 Sha.init.toList) 3) = w' := by
  go_enter Tryd.func25, Tryd.ntmps25
  go_wp2_with (refine wpList_buildSliceRun rfl 46 8 _ rfl (.slice (some ⟨w.heap.size, 0, none⟩) 8 8) (w' := w.alloc (.cells (Vs .i64 Sha.init.toList) 3)) (by kernel_rfl) ?_)
  go_ret
  exact ⟨rfl, rfl⟩
end Go.Proofs.YtfkkpbfoipfekaaDoor
