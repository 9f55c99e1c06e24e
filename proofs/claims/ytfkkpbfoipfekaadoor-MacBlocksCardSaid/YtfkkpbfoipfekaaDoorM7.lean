/-
  What the document's own Code makes: a row of its own of the code of the message under the key.
-/
import Derived.Test.YtfkkpbfoipfekaaDoorM6
namespace Go.Proofs.YtfkkpbfoipfekaaDoor
open Go.RowKit
set_option maxRecDepth 100000
set_option maxHeartbeats 400000 in
theorem rcode_any (w : World) (A B : Option Addr) (c d : Nat) (key m : List Nat) (hR : RdB w w.heap.size A key) (hAc : A = none → c = 0) (hb : Sha.Bs key) (hlen : key.length ≤ 400) (hRm : RdB w w.heap.size B m) (hBd : B = none → d = 0) (hbm : Sha.Bs m) (hlm : m.length ≤ 300) :
    Calls Tryd.prog 10 #[.slice A key.length c, .slice B m.length d] w fun e w' => ∃ v, e = .returned v ∧ w'.ownsRow w.heap.size 5 1 v 32 (vals .u8 (Mac.code key m)) ∧ Below w.heap.size w w' := by
  have HR := Lib.hid hR
  have HB := Lib.hid hb
  have HAc := Lib.hid hAc
  have HRm := Lib.hid hRm
  have HBm := Lib.hid hbm
  have HBd := Lib.hid hBd
  clear hR hb hAc hRm hbm hBd
  go_enter Tryd.func10, Tryd.ntmps10
  go_wp2_with fail
  refine (pad_any w A c key 54 (by decide) HR.out HAc.out HB.out hlen).mono ?_
  rintro e w1 ⟨v1, rfl, hown1, hb1⟩
  have hpl : (Mac.xorAll 54 (Mac.blockOf key)).length = 64 := by rw [Mac.xorAll_length, Mac.blockOf_length]
  have HO1 : Hid (w1.ownsRow w.heap.size 5 1 v1 (Mac.xorAll 54 (Mac.blockOf key)).length (vals .u8 (Mac.xorAll 54 (Mac.blockOf key)))) := Lib.hid (by rw [hpl]; exact hown1)
  have HB1 := Lib.hid hb1
  have hz1 := hb1.size
  have HPB : Hid (Sha.Bs (Mac.xorAll 54 (Mac.blockOf key))) := Lib.hid (Mac.xorAll_Bs (by decide) (Mac.blockOf_Bs HB.out))
  have HPL := Lib.hid hpl
  have HCode : Hid (Mac.code key m = Sha.sum (Mac.xorAll 92 (Mac.blockOf key) ++ Sha.sum (Mac.xorAll 54 (Mac.blockOf key) ++ m))) := Lib.hid rfl
  clear hown1 hb1 hpl
  generalize Mac.xorAll 54 (Mac.blockOf key) = ip at *
  go_wp2_with (at_builtin; refine wpList_append_bytes rfl _ _ rfl w.heap.size _ _ rfl HO1.out B d m rfl HBd.out ((HRm.out.below HB1.out).more hz1) (by rw [HPL.out]; omega) hz1 ?_; intro v2 w2 hown2 hgrow2 _)
  have HB2 : Hid (Below w.heap.size w w2) := Lib.hid (HB1.out.grown hgrow2 hz1 (own_row HO1.out))
  have hz2 : w.heap.size ≤ w2.heap.size := HB2.out.size
  obtain ⟨X, cx, hv, hcx, _, hXn, hXr, _⟩ := own_form hown2
  subst hv
  have HXr := Lib.hid hXr
  have HXn := Lib.hid hXn
  clear hown2 hgrow2 hXr hXn HO1 HB1
  refine (rsum_any w2 X cx (ip ++ m) HXr.out HXn.out (HPB.out.append HBm.out) (by rw [List.length_append, HPL.out]; omega)).mono ?_
  rintro e w3 ⟨v3, rfl, hown3, hb3⟩
  have HO3 : Hid (w3.ownsRow w2.heap.size 5 1 v3 (Sha.sum (ip ++ m)).length (vals .u8 (Sha.sum (ip ++ m)))) := Lib.hid (by rw [Sha.sum_length]; exact hown3)
  have HB3 : Hid (Below w.heap.size w w3) := Lib.hid (HB2.out.trans (hb3.mono hz2))
  have hz3 : w.heap.size ≤ w3.heap.size := HB3.out.size
  have HSB := Lib.hid (Sha.sum_Bs (ip ++ m))
  have HSL := Lib.hid (Sha.sum_length (ip ++ m))
  clear hown3 hb3 HXr HXn HB2
  generalize Sha.sum (ip ++ m) = inner at *
  go_wp2_with fail
  refine (pad_any w3 A c key 92 (by decide) ((HR.out.below HB3.out).more hz3) HAc.out HB.out hlen).mono ?_
  rintro e w4 ⟨v4, rfl, hown4, hb4⟩
  have hol : (Mac.xorAll 92 (Mac.blockOf key)).length = 64 := by rw [Mac.xorAll_length, Mac.blockOf_length]
  have HO4 : Hid (w4.ownsRow w3.heap.size 5 1 v4 (Mac.xorAll 92 (Mac.blockOf key)).length (vals .u8 (Mac.xorAll 92 (Mac.blockOf key)))) := Lib.hid (by rw [hol]; exact hown4)
  have HB4 : Hid (Below w.heap.size w w4) := Lib.hid (HB3.out.trans (hb4.mono hz3))
  have HOB : Hid (Sha.Bs (Mac.xorAll 92 (Mac.blockOf key))) := Lib.hid (Mac.xorAll_Bs (by decide) (Mac.blockOf_Bs HB.out))
  have HOL := Lib.hid hol
  have hz4 := hb4.size
  have hO3 := own_below HO3.out hb4
  obtain ⟨Y, cy, hvy, hcy, _, hYn, hYr, _⟩ := own_form hO3
  subst hvy
  have HYr := Lib.hid hYr
  have HYn := Lib.hid hYn
  clear hown4 hb4 hol hO3 hYr hYn HO3 HB3
  generalize Mac.xorAll 92 (Mac.blockOf key) = op at *
  go_wp2_with (at_builtin; refine wpList_append_bytes rfl _ _ rfl w3.heap.size _ _ rfl HO4.out Y cy inner rfl HYn.out HYr.out (by rw [HOL.out, HSL.out]; omega) hz4 ?_; intro v5 w5 hown5 hgrow5 _)
  have HB5 : Hid (Below w.heap.size w w5) := Lib.hid (HB4.out.grown hgrow5 HB4.out.size (fun j hj => Nat.le_trans hz3 (own_row HO4.out j hj)))
  have hz5 : w.heap.size ≤ w5.heap.size := HB5.out.size
  obtain ⟨Z, cz, hvz, hcz, _, hZn, hZr, _⟩ := own_form hown5
  subst hvz
  have HZr := Lib.hid hZr
  have HZn := Lib.hid hZn
  clear hown5 hgrow5 hZr hZn HO4 HB4 HYr HYn
  refine (rsum_any w5 Z cz (op ++ inner) HZr.out HZn.out (HOB.out.append HSB.out) (by rw [List.length_append, HOL.out, HSL.out]; omega)).mono ?_
  rintro e w6 ⟨v6, rfl, hown6, hb6⟩
  have HF : Hid (w6.ownsRow w.heap.size 5 1 v6 32 (vals .u8 (Mac.code key m))) := Lib.hid (by rw [HCode.out]; exact own_lower hown6 hz5)
  have HG : Hid (Below w.heap.size w w6) := Lib.hid (HB5.out.trans (hb6.mono hz5))
  clear hown6 hb6
  go_wp2
  go_ret
  exact ⟨v6, rfl, HF.out, HG.out⟩
end Go.Proofs.YtfkkpbfoipfekaaDoor
