/-
  The document's examples: the anchor of the statements answers true; and where the tables of unicode/utf8 come from.
-/
import Derived.Test.YtchlikigjijdkaaDoorT10
import Derived.Test.YtchlikigjijdkaaDoorT12
import Derived.Lib.LaidU8
namespace Go.Proofs.YtchlikigjijdkaaDoor.Txt
open Go.RowKit
set_option maxRecDepth 100000
theorem Tabs.two {w : World} (h : Tabs w) : 2 ≤ w.heap.size := by
  have h1 := (h.2 0 (by decide)).1
  by_cases hlt : 1 < w.heap.size
  · omega
  · unfold World.cell? at h1
    have : w.heap[(1 : Nat)]? = none := Array.getElem?_eq_none (by show w.heap.size ≤ 1; omega)
    simp [this] at h1
theorem ex_form : form [120, 61, 49, 38, 121, 61, 37, 67, 51, 37, 65, 57] = ([([120], [49]), ([121], [195, 169])], 0) := by decide +kernel
theorem ex_esc : esc [97, 32, 98, 38, 99] = [97, 43, 98, 37, 50, 54, 99] := by decide +kernel
theorem ex_bad : wrong [255] 0 = 0 := by decide +kernel
set_option maxHeartbeats 1000000 in
theorem anchor_any (w : World) (hT : Tabs w) : Calls Tryd.prog 9 #[] w fun e w' => e = .returned (.bool true) ∧ Below w.heap.size w w' := by
  have h2 := hT.two
  have HT := Lib.hid hT
  clear hT
  have hms := mk_size
  have hmt := mk_toList
  go_enter Tryd.func9, Tryd.ntmps9
  go_wp2_with fail
  refine (form_any [120, 61, 49, 38, 121, 61, 37, 67, 51, 37, 65, 57] _ HT.out h2 (by decide)).mono ?_
  rw [ex_form]
  rintro e w1 ⟨⟨A, c, rfl, _, _, _, hRd, _⟩, hb1⟩
  obtain ⟨ad, rfl, hadb, hcs⟩ := hRd (by decide)
  have HB1 := Lib.hid hb1
  have hsz1 := hb1.size
  have hc3 : w1.cell? (ad.add 3) = some (.string (mk [195, 169])) := hcs 3 _ rfl
  have HC := Lib.hid hc3
  clear hcs hc3 hRd hb1
  have hln : ([([120], [49]), ([121], [195, 169])] : List Pr).length = 2 := rfl
  simp only [hln]
  clear hln
  go_wp2_with fail
  refine (escape_any [97, 32, 98, 38, 99] _ (by decide)).mono ?_
  rw [ex_esc]
  rintro e w2 ⟨rfl, hb2⟩
  have HB2 : Hid (Below w.heap.size w w2) := Lib.hid (HB1.out.trans (hb2.mono hsz1))
  have hsz2 := HB2.out.size
  have hc3 : w2.cell? ⟨ad.block, ad.off + 3, none⟩ = some (.string (mk [195, 169])) := (hb2.cell (p := ad.add 3) (by rw [block_add]; exact hadb)).trans HC.out
  clear HC hb2
  have hq : ([97, 43, 98, 37, 50, 54, 99] == ([97, 43, 98, 37, 50, 54, 99] : List UInt8)) = true := rfl
  go_wp2_with fail
  refine (told_any [] _ (HT.out.below HB2.out h2) (by omega) (by decide)).mono ?_
  rw [show decide (wrong [] 0 < 0) = true from rfl]
  rintro e w3 ⟨rfl, hb3⟩
  have HB3 : Hid (Below w.heap.size w w3) := Lib.hid (HB2.out.trans (hb3.mono hsz2))
  have hsz3 := HB3.out.size
  clear hb3 hc3 HB2
  go_wp2_with fail
  refine (told_any [255] _ (HT.out.below HB3.out h2) (by omega) (by decide)).mono ?_
  rw [ex_bad, show decide ((0 : Int) < 0) = false from rfl]
  rintro e w4 ⟨rfl, hb4⟩
  have HB4 : Hid (Below w.heap.size w w4) := Lib.hid (HB3.out.trans (hb4.mono hsz3))
  clear hb4 HB3
  go_wp2
  go_ret
  exact ⟨rfl, HB4.out⟩
end Go.Proofs.YtchlikigjijdkaaDoor.Txt
