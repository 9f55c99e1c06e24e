/-
  What the document's word computes.
-/
import Derived.Test.YtfkkpbfoipfekaaDoorR1
namespace Go.Proofs.YtfkkpbfoipfekaaDoor
open Go.RowKit
/-- Sixty-four bytes lie in block p from offset o on. -/
def At64 (w : World) (p o : Nat) (l : List Nat) : Prop := ∀ j, j < 64 → w.cell? ⟨p, o + j, none⟩ = some (.int .u8 (l.getD j 0 : Nat))
theorem word_num2 (x0 x1 x2 x3 : Nat) : (x0 : Int) * 16777216 + (x1 : Int) * 65536 + (x2 : Int) * 256 + (x3 : Int) = ((x0 * 16777216 + x1 * 65536 + x2 * 256 + x3 : Nat) : Int) := by omega
set_option maxHeartbeats 400000 in
theorem word_any (w : World) (p o c i : Nat) (l : List Nat) (hl : At64 w p o l) (hb : Sha.Bs l) (hi : i + 3 < 64) :
    Calls Tryd.prog 32 #[.slice (some ⟨p, o, none⟩) 64 c, .int .i64 (i : Int)] w fun e w' => e = .returned (.int .i64 ((Sha.word l i : Nat) : Int)) ∧ ∃ k, w' = w.drewN k := by
  have c0 := hl i (by omega)
  have c1 := hl (i + 1) (by omega)
  have c2 := hl (i + 2) (by omega)
  have c3 := hl (i + 3) (by omega)
  have b0 := hb.getD i; have b1 := hb.getD (i + 1); have b2 := hb.getD (i + 2); have b3 := hb.getD (i + 3)
  have HE : Hid (((Sha.word l i : Nat) : Int) = ((l.getD i 0 * 16777216 + l.getD (i + 1) 0 * 65536 + l.getD (i + 2) 0 * 256 + l.getD (i + 3) 0 : Nat) : Int)) := Lib.hid rfl
  generalize l.getD i 0 = x0 at *; generalize l.getD (i + 1) 0 = x1 at *; generalize l.getD (i + 2) 0 = x2 at *; generalize l.getD (i + 3) 0 = x3 at *
  have HN := Lib.hid (word_num2 x0 x1 x2 x3)
  clear hl hb
  have e0 : (i : Int) < 64 := by omega
  have e1 : (i : Int) + 1 < 64 := by omega
  have e2 : (i : Int) + 2 < 64 := by omega
  have e3 : (i : Int) + 3 < 64 := by omega
  go_enter Tryd.func32, Tryd.ntmps32
  go_wp2
  go_quiet (fail)
  go_wp2
  go_ret
  exact ⟨ret_num (HN.out.trans HE.out.symm), _, rfl⟩
end Go.Proofs.YtfkkpbfoipfekaaDoor
