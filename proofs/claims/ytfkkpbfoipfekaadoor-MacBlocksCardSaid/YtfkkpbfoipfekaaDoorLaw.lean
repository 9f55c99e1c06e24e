/-
  What the statements' proofs share: from the reading of the arguments and of the two listed variables to what the walks ask.
-/
import Derived.Test.YtfkkpbfoipfekaaDoorRows
import Derived.Test.YtfkkpbfoipfekaaDoorReg3
import Derived.ProofKit
import Derived.LaidMore
import Derived.OpenShut
import Derived.ShutString
import Derived.ChangeOld
import Derived.Stop.Joined
import Derived.Stop.LaidErr
import Derived.Lib.LaidTab
namespace Go.Proofs.YtfkkpbfoipfekaaDoor
open Go.ChangeShapes Go.WideShapes Go.ChangeAt Go.RowKit

theorem own : ownKnob Tryd.prog.godebug = none := by kernel_rfl
theorem laidOut : laidOutB Tryd.prog = true := by kernel_rfl
theorem gInit : Tryd.prog.globalNamed "klaxon/sha.initial" = some 0 := by kernel_rfl
theorem gK : Tryd.prog.globalNamed "klaxon/sha.k" = some 1 := by kernel_rfl
theorem tInit : (Tryd.prog.globals[0]?).map (·.type) = some 52 := by kernel_rfl
theorem tK : (Tryd.prog.globals[1]?).map (·.type) = some 60 := by kernel_rfl
def laid2 : List (String × DataW Unit) := [("klaxon/sha.initial", Rows.laid_klaxon_sha_initial), ("klaxon/sha.k", Rows.laid_klaxon_sha_k)]
def ints (l : List Nat) : List Int := l.map fun n : Nat => (n : Int)
theorem dInit : (Rows.laid_klaxon_sha_initial : DataW Unit) = Lib.tabData .u32 (ints Sha.init.toList) := by kernel_rfl
theorem dK : (Rows.laid_klaxon_sha_k : DataW Unit) = Lib.tabData .u32 (ints Sha.K) := by kernel_rfl
/-- The door's own heap meets the condition. -/
theorem door_met (os : Os) (args : Array Value) : laidMetH Tryd.prog laid2 ((World.doorLaid Tryd.prog 19 os).forCall (fun _ _ => 0) ⟨#[], args, []⟩).memory :=
  laidMetH_of_parts3 (fuel := 8) (laidMet_of_run' 8 (by kernel_rfl) (by kernel_rfl)) (by kernel_rfl) (by kernel_rfl)
/-- The listed variables hold the two tables. -/
theorem of_laid {W : World} (h : laidMetH Tryd.prog laid2 W) : Cx W := by
  rw [MakeChecks.laidMetH_plain _ _ _ (by kernel_rfl)] at h
  unfold laid2 at h
  have h1 := h
  rw [dInit] at h1
  have t1 := Lib.tabIs_of_head gInit tInit Tryd.underlying52 Tryd.underlying51 (by kernel_rfl) (by kernel_rfl) h1
  have h2 := h.tail
  rw [dK] at h2
  have t2 := Lib.tabIs_of_head gK tK Tryd.underlying60 Tryd.underlying51 (by kernel_rfl) (by kernel_rfl) h2
  have hK : Kat W := fun i hi => by
    have := t2.cell gK i (by show i < 64; exact hi)
    rw [this]
    simp only [ints, List.getD_eq_getElem?_getD, List.getElem?_map]
    cases Sha.K[i]? <;> rfl
  refine ⟨⟨t1.cell gInit 0 (by decide), t1.cell gInit 1 (by decide), t1.cell gInit 2 (by decide), t1.cell gInit 3 (by decide), t1.cell gInit 4 (by decide), t1.cell gInit 5 (by decide), t1.cell gInit 6 (by decide), t1.cell gInit 7 (by decide)⟩, hK, ?_⟩
  have := block_lt_of_cell (hK 0 (by decide))
  show 2 ≤ W.heap.size
  have : 1 < W.heap.size := this
  omega
/-- A slice of bytes that came in. -/
theorem open_bytes {H : Type} {enc : TypeId × Value → H} {W : World} {a0 : Option Addr} {len cap : Nat} {d : DataW H} {p : List MemPlace} (h : DataW.Trod enc Tryd.prog W 0 (fun _ => true) true 22 (.slice a0 len cap) d p) :
    ∃ bs : List Nat, bs.length = len ∧ Sha.Bs bs ∧ len ≤ cap ∧ cap ≤ maxLen ∧ RdB W W.heap.size a0 bs := by
  obtain ⟨fuel, hf⟩ := h
  rcases open_ints Tryd.underlying22 Tryd.underlying5 (by kernel_rfl) hf with ⟨hcs, _⟩ | ⟨x, l, c, zs, hcs, _, hl, hm, hz, _, hcell, hwz⟩
  · simp [Value.cells] at hcs
    obtain ⟨rfl, rfl, rfl⟩ := hcs
    exact ⟨[], rfl, (fun x hx => by cases hx), Nat.le_refl _, Nat.zero_le _, (fun h => absurd h (by decide))⟩
  · simp [Value.cells] at hcs
    obtain ⟨rfl, rfl, rfl⟩ := hcs
    simp only [if_true] at hz
    have hb : ∀ n ∈ zs, 0 ≤ n ∧ n ≤ 255 := fun n hn => bounds_u8 (hwz n hn)
    refine ⟨(zs.take len).map Int.toNat, by simp; omega, fun x hx => ?_, hl, hm, fun hp => ⟨x, rfl, ?_, fun j u hu => ?_⟩⟩
    · simp only [List.mem_map] at hx
      obtain ⟨n, hn, rfl⟩ := hx
      have := hb n (List.mem_of_mem_take hn)
      omega
    · simp only [List.length_map, List.length_take] at hp
      have := block_lt_of_cell (hcell 0 (by omega))
      rwa [block_add] at this
    · simp only [vals, List.map_map, List.getElem?_map, List.getElem?_take] at hu
      split at hu
      · rename_i hj
        have hjz : j < zs.length := by omega
        rw [hcell j hjz]
        rw [List.getElem?_eq_getElem hjz] at hu
        simp only [Option.map_some, Option.some.injEq, Function.comp] at hu
        rw [← hu, List.getD_eq_getElem?_getD, List.getElem?_eq_getElem hjz, Option.getD_some]
        have := hb zs[j] (List.getElem_mem hjz)
        congr 2
        omega
      · simp at hu
theorem nil_cap {H : Type} {enc : TypeId × Value → H} {W : World} {a0 : Option Addr} {len cap : Nat} {d : DataW H} {p : List MemPlace} (h : DataW.Trod enc Tryd.prog W 0 (fun _ => true) true 22 (.slice a0 len cap) d p) : a0 = none → cap = 0 := by
  obtain ⟨fuel, hf⟩ := h
  rcases open_ints Tryd.underlying22 Tryd.underlying5 (by kernel_rfl) hf with ⟨hcs, _⟩ | ⟨x, l, c, zs, hcs, _⟩
  · simp [Value.cells] at hcs
    exact fun _ => hcs.2.2
  · simp [Value.cells] at hcs
    obtain ⟨rfl, rfl, rfl⟩ := hcs
    intro e
    cases e
end Go.Proofs.YtfkkpbfoipfekaaDoor
