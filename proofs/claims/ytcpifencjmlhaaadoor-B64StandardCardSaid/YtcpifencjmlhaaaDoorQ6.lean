/-
  The document's examples: the encodings of f, fo, foo and of the bytes fb ff are those that the document tells, so the anchor of the statements answers true.
-/
import Derived.Test.YtcpifencjmlhaaaDoorQ2
namespace Go.Proofs.YtcpifencjmlhaaaDoor.B64
open Go.RowKit
theorem ex1 : str (encU [102]) = ⟨#[90, 103]⟩ := by kernel_rfl
theorem ex2 : str (encU [102, 111]) = ⟨#[90, 109, 56]⟩ := by kernel_rfl
theorem ex3 : str (encU [102, 111, 111]) = ⟨#[90, 109, 57, 118]⟩ := by kernel_rfl
theorem ex4 : str (encU [251, 255]) = ⟨#[45, 95, 56]⟩ := by kernel_rfl
set_option maxRecDepth 100000
set_option maxHeartbeats 1000000 in
theorem anchor_any (w : World) : Calls Tryd.prog 5 #[] w fun e w' => e = .returned (.bool true) ∧ Below w.heap.size w w' := by
  have kc := conv_const
  have HB0 : Hid (Below w.heap.size w w) := Lib.hid (Below.refl _ _)
  go_enter Tryd.func5, Tryd.ntmps5
  go_wp2_with fail
  generalize hw : w.alloc _ = v0
  have hR : RdB v0 v0.heap.size (some ⟨w.heap.size, 0, none⟩) [102] := by rw [← hw]; exact lit_rd w [102] _ rfl _
  have hB : Below w.heap.size w v0 := by rw [← hw]; exact HB0.out.alloc HB0.out.size _
  clear hw
  refine (Encode_any v0 _ 1 [102] hR (by unfold Bs; decide) (by decide)).mono ?_
  rintro e w1 ⟨rfl, hb2⟩
  rw [ex1]
  have HB1 := Lib.hid (hB.trans (hb2.mono hB.size))
  clear hb2 hB hR HB0
  go_wp2_with fail
  generalize hw : w1.alloc _ = v1
  have hR : RdB v1 v1.heap.size (some ⟨w1.heap.size, 0, none⟩) [102, 111] := by rw [← hw]; exact lit_rd w1 [102, 111] _ rfl _
  have hB : Below w.heap.size w v1 := by rw [← hw]; exact HB1.out.alloc HB1.out.size _
  clear hw
  refine (Encode_any v1 _ 2 [102, 111] hR (by unfold Bs; decide) (by decide)).mono ?_
  rintro e w2 ⟨rfl, hb2⟩
  rw [ex2]
  have HB2 := Lib.hid (hB.trans (hb2.mono hB.size))
  clear hb2 hB hR HB1
  go_wp2_with fail
  generalize hw : w2.alloc _ = v2
  have hR : RdB v2 v2.heap.size (some ⟨w2.heap.size, 0, none⟩) [102, 111, 111] := by rw [← hw]; exact lit_rd w2 [102, 111, 111] _ rfl _
  have hB : Below w.heap.size w v2 := by rw [← hw]; exact HB2.out.alloc HB2.out.size _
  clear hw
  refine (Encode_any v2 _ 3 [102, 111, 111] hR (by unfold Bs; decide) (by decide)).mono ?_
  rintro e w3 ⟨rfl, hb2⟩
  rw [ex3]
  have HB3 := Lib.hid (hB.trans (hb2.mono hB.size))
  clear hb2 hB hR HB2
  go_wp2_with fail
  generalize hw : w3.alloc _ = v3
  have hR : RdB v3 v3.heap.size (some ⟨w3.heap.size, 0, none⟩) [251, 255] := by rw [← hw]; exact lit_rd w3 [251, 255] _ rfl _
  have hB : Below w.heap.size w v3 := by rw [← hw]; exact HB3.out.alloc HB3.out.size _
  clear hw
  refine (Encode_any v3 _ 2 [251, 255] hR (by unfold Bs; decide) (by decide)).mono ?_
  rintro e w4 ⟨rfl, hb2⟩
  rw [ex4]
  have HB4 := Lib.hid (hB.trans (hb2.mono hB.size))
  clear hb2 hB hR HB3
  go_wp2
  go_ret
  exact ⟨rfl, HB4.out⟩
end Go.Proofs.YtcpifencjmlhaaaDoor.B64
