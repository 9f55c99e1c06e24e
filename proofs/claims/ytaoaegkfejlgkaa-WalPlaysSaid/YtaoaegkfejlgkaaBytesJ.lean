/-
  What the document's Join makes.
-/
import Derived.Test.YtaoaegkfejlgkaaBytes
namespace Go.Proofs.Ytaoaegkfejlgkaa
open Go.RowKit
set_option maxRecDepth 100000
set_option maxHeartbeats 400000 in
/-- What the document's Join makes: the parts, one behind the other, in a row of their own. -/
theorem join_any (w : World) (A : Option Addr) (c : Nat) (ps : List (List Nat)) (hP : Parts w w.heap.size A ps) (hNil : ∀ i, i < ps.length → ∀ ad Ai n ci, A = some ad → w.cell? (ad.add i) = some (.slice Ai n ci) → Ai = none → ci = 0) (hn : ps.length ≤ 9223372036854775807) (hN : ps.flatten.length ≤ 1000000) :
    Calls Try.prog 50 #[.slice A ps.length c] w fun e w' => ∃ v, e = .returned v ∧ w'.ownsRow w.heap.size 5 1 v ps.flatten.length (vals .u8 ps.flatten) ∧ Below w.heap.size w w' := by
  have HP := Lib.hid hP
  have HNil := Lib.hid hNil
  have HX := Lib.hid hN
  clear hP hNil hN
  go_enter Try.func50, Try.ntmps50
  go_wp2
  go_loopw [3, 4] (fun v i wr => ∃ k : Nat, k ≤ ps.length ∧ i = .int .i64 k ∧ wr.ownsRow w.heap.size 5 1 v (ps.take k).flatten.length (vals .u8 (ps.take k).flatten) ∧ Below w.heap.size w wr) (fun _ i _ => ps.length - (intOf i).toNat)
  case atStart => exact ⟨0, by omega, rfl, ⟨by simp [vals], .inl ⟨rfl, by simp⟩⟩, Below.refl _ _⟩
  case round =>
    obtain ⟨k, hk, rfl, hown, hbel⟩ := hrel
    have HO := Lib.hid hown
    have HB := Lib.hid hbel
    have hzw := hbel.size
    clear hown hbel
    by_cases hlt : k < ps.length
    · obtain ⟨ad, Ai, ci, rfl, hadb, hcell, hci, hrd⟩ := HP.out k hlt
      have HNl := Lib.hid (HNil.out k hlt ad Ai _ ci rfl hcell)
      have hc : wr.cell? (ad.add k) = some (.slice Ai (ps.getD k []).length ci) := (HB.out.cell (by rw [block_add]; exact hadb)).trans hcell
      have HR := Lib.hid ((hrd.below HB.out).more hzw)
      have HN : Hid ((ps.take (k + 1)).flatten = (ps.take k).flatten ++ ps.getD k []) := Lib.hid (take_flat ps k hlt)
      have hle : (ps.take k).flatten.length + (ps.getD k []).length ≤ 1000000 := by
        have h1 := flat_le ps (k + 1)
        have h2 := HX.out
        rw [HN.out, List.length_append] at h1
        omega
      clear hcell hrd
      generalize ps.getD k [] = pk at *
      go_wp2_with (at_builtin; refine wpList_append_bytes rfl _ _ rfl w.heap.size _ (ps.take k).flatten rfl HO.out Ai ci pk rfl HNl.out HR.out hle hzw ?_; intro v4 w4 hown4 hgrow4 _)
      have hrow := own_row HO.out
      rw [← HN.out] at hown4
      have HO4 := Lib.hid hown4
      have HB4 : Hid (Below w.heap.size w w4) := Lib.hid (HB.out.grown hgrow4 HB.out.size (fun j hj => hrow j hj))
      clear hown4 hgrow4 hrow
      go_roundw
      case rel => exact ⟨k + 1, by omega, by go_num, HO4.out, HB4.out⟩
      case measure => simp [intOf]; omega
    · obtain rfl : k = ps.length := by omega
      rw [List.take_length] at HO
      go_wp2
      go_ret
      exact ⟨_, rfl, HO.out, HB.out⟩
end Go.Proofs.Ytaoaegkfejlgkaa
