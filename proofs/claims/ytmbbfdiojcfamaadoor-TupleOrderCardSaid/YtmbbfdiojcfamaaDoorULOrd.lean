/-
  The walk of the statement TupleOrder: whatever the parts it returns true, and nothing that was there before has changed.
-/
import Derived.Test.YtmbbfdiojcfamaaDoorULKey
namespace Go.Proofs.YtmbbfdiojcfamaaDoor.Txt
open Go.RowKit Tup
set_option maxRecDepth 100000
set_option maxHeartbeats 8000000 in
theorem tupleOrder_any (l m : List Pt) (A B : Option Addr) (c d : Nat) (w : World) (hR : Rd w w.heap.size A (cells3 l)) (hS : Rd w w.heap.size B (cells3 m)) (hok : ∀ p ∈ l, p.ok) (hom : ∀ p ∈ m, p.ok) (hlc : l.length ≤ 9223372036854775807) (hmc : m.length ≤ 9223372036854775807) (hx : Mx w) (h2 : 2 ≤ w.heap.size) :
    Calls Tryd.prog 5 #[.slice A l.length c, .slice B m.length d] w fun e w' => e = .returned (.bool true) ∧ Below w.heap.size w w' := by
  have HX := Lib.hid hx
  have HR := Lib.hid hR
  have HS := Lib.hid hS
  have HOK := Lib.hid hok
  have HOM := Lib.hid hom
  clear hx hR hS hok hom
  have hms := mk_size
  have hmt := mk_toList
  go_enter Tryd.func5, Tryd.ntmps5
  go_wp2_with fail
  refine (anchor_any w HX.out h2).mono ?_
  rintro e w1 ⟨rfl, hb1⟩
  have HB1 := Lib.hid hb1
  have hz1 := hb1.size
  clear hb1
  go_wp2_with fail
  refine (both_any l A c _ ((HR.out.below HB1.out).more hz1) hlc).mono ?_
  rintro e w2 ⟨hF, hb2⟩
  have HB2 : Hid (Below w.heap.size w w2) := Lib.hid (HB1.out.trans (hb2.mono hz1))
  have hz2 := HB2.out.size
  clear hb2 HB1
  obtain ⟨A2, n2, c2, g2, rfl, hg2⟩ : ∃ A2 n2 c2 g2, e = .returned (.tuple #[.slice A2 n2 c2, .bool g2]) ∧ (g2 = true → Fit l ∧ n2 = l.length ∧ Rd w2 w2.heap.size A2 (cells3 l)) := by
    rcases hF with ⟨hfit, A2, c2, rfl, _, _, _, hR2, _⟩ | ⟨_, rfl⟩
    · exact ⟨A2, l.length, c2, true, rfl, fun _ => ⟨hfit, rfl, hR2⟩⟩
    · exact ⟨none, 0, 0, false, rfl, fun h => by cases h⟩
  clear hF
  have HG2 := Lib.hid hg2
  clear hg2
  go_wp2_with fail
  refine (both_any m B d _ ((HS.out.below HB2.out).more hz2) hmc).mono ?_
  rintro e w3 ⟨hF, hb3⟩
  have HB3 : Hid (Below w.heap.size w w3) := Lib.hid (HB2.out.trans (hb3.mono hz2))
  have hz3 := HB3.out.size
  have HG3 : Hid (g2 = true → Fit l ∧ n2 = l.length ∧ Rd w3 w3.heap.size A2 (cells3 l)) := Lib.hid (fun h => by
    obtain ⟨h1, h2, h3⟩ := HG2.out h
    exact ⟨h1, h2, (h3.below hb3).more hb3.size⟩)
  clear hb3 HB2 HG2
  rcases hF with ⟨hfm, B2, d2, rfl, _, _, _, hS2, _⟩ | ⟨_, rfl⟩
  · cases g2 with
    | false =>
      clear HG3
      go_wp2
      go_ret
      exact ⟨rfl, HB3.out⟩
    | true =>
      obtain ⟨hfl, rfl, hR3⟩ := HG3.out rfl
      have HFl := Lib.hid (fit_few hfl HOK.out)
      have HFm := Lib.hid (fit_few hfm HOM.out)
      have hll := hfl.1
      have hmm := hfm.1
      have HK := Lib.hid (kcmp_key l m HOK.out HOM.out)
      have HN := Lib.hid (kcmp_neg l m HOK.out HOM.out)
      have hrg := kcmp_range l m HOK.out HOM.out
      have HS2 := Lib.hid hS2
      have HR3 := Lib.hid hR3
      clear hfl hfm hS2 hR3 HG3
      go_wp2_with fail
      refine (rcompare_any l m A2 B2 _ _ _ HR3.out HS2.out (by omega) (by omega)).mono ?_
      rintro e w4 ⟨rfl, hb4⟩
      have HB4 : Hid (Below w.heap.size w w4) := Lib.hid (HB3.out.trans (hb4.mono hz3))
      have hz4 := HB4.out.size
      clear hb4 HB3 HR3 HS2
      go_wp2_with fail
      refine (compare_any l m A B _ _ _ ((HR.out.below HB4.out).more hz4) ((HS.out.below HB4.out).more hz4) (by omega) (by omega)).mono ?_
      rintro e w5 ⟨rfl, hb5⟩
      have HB5 : Hid (Below w.heap.size w w5) := Lib.hid (HB4.out.trans (hb5.mono hz4))
      have hz5 := HB5.out.size
      have hee : ((kcmp l m : Int) == kcmp l m) = true := by rw [beq_iff_eq]
      clear hb5 HB4
      obtain ⟨z, hz⟩ : ∃ z, kcmp l m = z := ⟨_, rfl⟩
      rw [hz] at hee HK HN hrg ⊢
      clear hz
      have hwz : IntKind.i64.wrap (-z) = -z := by rw [IntKind.wrap_i64]; omega
      have HRG := Lib.hid hrg
      clear hrg
      go_wp2_with fail
      refine (key_any l A _ _ ((HR.out.below HB5.out).more hz5) HFl.out (HX.out.below HB5.out h2) (by omega)).mono ?_
      rintro e w6 ⟨rfl, hb6⟩
      have HB6 : Hid (Below w.heap.size w w6) := Lib.hid (HB5.out.trans (hb6.mono hz5))
      have hz6 := HB6.out.size
      clear hb6 HB5
      go_wp2_with fail
      refine (key_any m B _ _ ((HS.out.below HB6.out).more hz6) HFm.out (HX.out.below HB6.out h2) (by omega)).mono ?_
      rintro e w7 ⟨rfl, hb7⟩
      have HB7 : Hid (Below w.heap.size w w7) := Lib.hid (HB6.out.trans (hb7.mono hz6))
      have hz7 := HB7.out.size
      clear hb7 HB6
      go_wp2_with fail
      refine (cmpS_any (key l) (key m) _).mono ?_
      rintro e w8 ⟨rfl, rfl⟩
      rw [HK.out]
      go_wp2_with fail
      refine (compare_any m l B A _ _ _ ((HS.out.below HB7.out).more hz7) ((HR.out.below HB7.out).more hz7) (by omega) (by omega)).mono ?_
      rintro e w9 ⟨rfl, hb9⟩
      rw [HN.out]
      have HB9 : Hid (Below w.heap.size w w9) := Lib.hid (HB7.out.trans (hb9.mono hz7))
      have hen : ((-z : Int) == -z) = true := by rw [beq_iff_eq]
      clear hb9 HB7
      go_wp2
      go_ret
      exact ⟨rfl, HB9.out⟩
  · cases g2 <;> (go_wp2; go_ret; exact ⟨rfl, HB3.out⟩)
end Go.Proofs.YtmbbfdiojcfamaaDoor.Txt
