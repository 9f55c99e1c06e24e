/-
  The walk of the statement TupleBegins: whatever the parts it returns true, and nothing that was there before has changed.
-/
import Derived.Test.YtmbbfdiojcfamaaDoorULKey
import Derived.Test.YtmbbfdiojcfamaaDoorULNex
namespace Go.Proofs.YtmbbfdiojcfamaaDoor.Txt
open Go.RowKit Tup
set_option maxRecDepth 100000
theorem rd_take {w : World} {B : Nat} {A : Option Addr} {l : List Pt} (h : Rd w B A (cells3 l)) (k : Nat) : Rd w B A (cells3 (l.take k)) := fun hl => by
  have hl2 : 0 < (cells3 l).length := by rw [cells3_length] at hl ⊢; rw [List.length_take] at hl; omega
  obtain ⟨ad, e, h1, h2⟩ := h hl2
  refine ⟨ad, e, h1, fun j u hu => h2 j u ?_⟩
  have e2 : cells3 l = cells3 (l.take k) ++ cells3 (l.drop k) := by rw [← cells3_append, List.take_append_drop]
  rw [e2, List.getElem?_append_left (List.getElem?_eq_some_iff.1 hu).1]
  exact hu
set_option maxHeartbeats 8000000 in
theorem tupleBegins_any (l m : List Pt) (A B : Option Addr) (c d : Nat) (w : World) (hR : Rd w w.heap.size A (cells3 l)) (hS : Rd w w.heap.size B (cells3 m)) (hok : ∀ p ∈ l, p.ok) (hom : ∀ p ∈ m, p.ok) (hlc : l.length ≤ 9223372036854775807) (hmc : m.length ≤ 9223372036854775807) (hx : Mx w) (h2 : 2 ≤ w.heap.size) :
    Calls Tryd.prog 6 #[.slice A l.length c, .slice B m.length d] w fun e w' => e = .returned (.bool true) ∧ Below w.heap.size w w' := by
  have HX := Lib.hid hx
  have HR := Lib.hid hR
  have HS := Lib.hid hS
  have HOK := Lib.hid hok
  have HOM := Lib.hid hom
  clear hx hR hS hok hom
  have hms := mk_size
  have hmt := mk_toList
  go_enter Tryd.func6, Tryd.ntmps6
  go_wp2_with fail
  refine (anchor_any w HX.out h2).mono ?_
  rintro e w1 ⟨rfl, hb1⟩
  have HB1 := Lib.hid hb1
  have hz1 := hb1.size
  clear hb1
  go_wp2_with fail
  refine (both_any l A c _ ((HR.out.below HB1.out).more hz1) hlc).mono ?_
  rintro e w2 ⟨hF, hb2⟩
  have HB2 : Hid (Below w.heap.size w w2) := Lib.hid (HB1.out.trans (hb2.mono hz1))
  have hz2 := HB2.out.size
  clear hb2 HB1
  obtain ⟨A2, n2, c2, g2, rfl, hg2⟩ : ∃ A2 n2 c2 g2, e = .returned (.tuple #[.slice A2 n2 c2, .bool g2]) ∧ (g2 = true → Fit l ∧ n2 = l.length ∧ Rd w2 w2.heap.size A2 (cells3 l) ∧ l.length ≤ c2) := by
    rcases hF with ⟨hfit, A2, c2, rfl, _, hlc2, _, hR2, _⟩ | ⟨_, rfl⟩
    · exact ⟨A2, l.length, c2, true, rfl, fun _ => ⟨hfit, rfl, hR2, hlc2⟩⟩
    · exact ⟨none, 0, 0, false, rfl, fun h => by cases h⟩
  clear hF
  have HG2 := Lib.hid hg2
  clear hg2
  go_wp2_with fail
  refine (both_any m B d _ ((HS.out.below HB2.out).more hz2) hmc).mono ?_
  rintro e w3 ⟨hF, hb3⟩
  have HB3 : Hid (Below w.heap.size w w3) := Lib.hid (HB2.out.trans (hb3.mono hz2))
  have hz3 := HB3.out.size
  have HG3 : Hid (g2 = true → Fit l ∧ n2 = l.length ∧ Rd w3 w3.heap.size A2 (cells3 l) ∧ l.length ≤ c2) := Lib.hid (fun h => by
    obtain ⟨h1, h2, h3, h4⟩ := HG2.out h
    exact ⟨h1, h2, (h3.below hb3).more hb3.size, h4⟩)
  clear hb3 HB2 HG2
  rcases hF with ⟨hfm, B2, d2, rfl, _, _, _, hS2, _⟩ | ⟨_, rfl⟩
  · cases g2 with
    | false =>
      clear HG3
      go_wp2
      go_ret
      exact ⟨rfl, HB3.out⟩
    | true =>
      obtain ⟨hfl, rfl, hR3, hlc2⟩ := HG3.out rfl
      have HFl := Lib.hid (fit_few hfl HOK.out)
      have HFm := Lib.hid (fit_few hfm HOM.out)
      have hkl := fit_key hfl
      have hkm := fit_key hfm
      have hll := hfl.1
      have hmm := hfm.1
      have HBI := Lib.hid (begins_iff l m HOK.out HOM.out)
      have hsp := nxt_spec (key m) (key l)
      rw [← less_cmp, ← less_cmp] at hsp
      have HSP := Lib.hid hsp
      have HS2 := Lib.hid hS2
      have HR3 := Lib.hid hR3
      clear hfl hfm hS2 hR3 HG3 hsp
      go_wp2_with fail
      refine (key_any l A _ _ ((HR.out.below HB3.out).more hz3) HFl.out (HX.out.below HB3.out h2) (by omega)).mono ?_
      rintro e w6 ⟨rfl, hb6⟩
      have HB6 : Hid (Below w.heap.size w w6) := Lib.hid (HB3.out.trans (hb6.mono hz3))
      have hz6 := HB6.out.size
      have HS6 : Hid (Rd w6 w6.heap.size B2 (cells3 m)) := Lib.hid ((HS2.out.below hb6).more hb6.size)
      have HR6 : Hid (Rd w6 w6.heap.size A2 (cells3 l)) := Lib.hid ((HR3.out.below hb6).more hb6.size)
      clear hb6 HB3 HS2 HR3
      go_wp2_with fail
      refine (key_any m B _ _ ((HS.out.below HB6.out).more hz6) HFm.out (HX.out.below HB6.out h2) (by omega)).mono ?_
      rintro e w7 ⟨rfl, hb7⟩
      have HB7 : Hid (Below w.heap.size w w7) := Lib.hid (HB6.out.trans (hb7.mono hz6))
      have hz7 := HB7.out.size
      have HS7 : Hid (Rd w7 w7.heap.size B2 (cells3 m)) := Lib.hid ((HS6.out.below hb7).more hb7.size)
      have HR7 : Hid (Rd w7 w7.heap.size A2 (cells3 l)) := Lib.hid ((HR6.out.below hb7).more hb7.size)
      clear hb7 HB6 HS6 HR6
      -- whether the parts begin so
      obtain ⟨g, hg⟩ : ∃ g, (key m).isPrefixOf (key l) = g := ⟨_, rfl⟩
      rw [hg] at HBI HSP
      by_cases hle : m.length ≤ l.length
      · have hmin : min l.length m.length = m.length := Nat.min_eq_right hle
        rw [hmin, decide_eq_true hle, Bool.true_and] at HBI
        have hd1 : (m.length : Int) ≤ (l.length : Int) := by omega
        have hmi1 : ¬ ((l.length : Int) < (m.length : Int)) := by omega
        have hmi2 : ¬ (l.length < m.length) := by omega
        have htl : (l.take m.length).length = m.length := by rw [List.length_take]; omega
        have hmc2 : m.length ≤ c2 := by omega
        have HCMP := Lib.hid (rcompare_any (l.take m.length) m A2 B2 c2 d2 w7 (rd_take HR7.out m.length) HS7.out (by omega) (by omega))
        rw [htl] at HCMP
        have hmn : min (l.length : Int) (m.length : Int) = (m.length : Int) := by omega
        clear htl
        go_wp2_with fail
        refine HCMP.out.mono ?_
        rintro e w8 ⟨rfl, hb8⟩
        have HB8 : Hid (Below w.heap.size w w8) := Lib.hid (HB7.out.trans (hb8.mono hz7))
        have hzz : (kcmp (l.take m.length) m == 0) = g := by rw [HBI.out]; rfl
        clear hb8 HB7 HCMP HS7 HR7
        generalize kcmp (l.take m.length) m = z at *
        go_wp2_with fail
        refine (next_any (key m) _ (by omega)).mono ?_
        rintro e w9 ⟨rfl, hb9⟩
        have HB9 : Hid (Below w.heap.size w w9) := Lib.hid (HB8.out.trans (hb9.mono HB8.out.size))
        clear hb9 HB8
        go_wp2_with fail
        refine (hasP_any (key l) (key m) _).mono ?_
        rintro e w10 ⟨rfl, rfl⟩
        rw [hg]
        have hgg : (g == g) = true := by rw [beq_iff_eq]
        clear hg
        generalize key l = kl at *
        generalize key m = km at *
        generalize nxt km = n at *
        cases n with
        | nil =>
          have he : (([] : List UInt8) == []) = true := rfl
          have hsp2 : g = !Op.bytesLess kl km := by rw [HSP.out]; simp
          clear HSP HBI
          subst hsp2
          cases hx : Op.bytesLess kl km <;> (go_wp2; go_ret; exact ⟨rfl, HB9.out⟩)
        | cons y r =>
          have he : ((y :: r) == ([] : List UInt8)) = false := rfl
          have hsp2 : g = (!Op.bytesLess kl km && Op.bytesLess kl (y :: r)) := by rw [HSP.out]; simp
          clear HSP HBI
          subst hsp2
          cases hx : Op.bytesLess kl km <;> cases hz : Op.bytesLess kl (y :: r) <;> (go_wp2; go_ret; exact ⟨rfl, HB9.out⟩)
      · have hd1 : (l.length : Int) < (m.length : Int) := by omega
        have hd2 : ¬ ((m.length : Int) ≤ (l.length : Int)) := by omega
        rw [decide_eq_false hle, Bool.false_and] at HBI
        have hg0 := HBI.out
        clear HBI
        subst hg0
        go_wp2_with fail
        refine (next_any (key m) _ (by omega)).mono ?_
        rintro e w9 ⟨rfl, hb9⟩
        have HB9 : Hid (Below w.heap.size w w9) := Lib.hid (HB7.out.trans (hb9.mono HB7.out.size))
        clear hb9 HB7
        go_wp2_with fail
        refine (hasP_any (key l) (key m) _).mono ?_
        rintro e w10 ⟨rfl, rfl⟩
        rw [hg]
        clear hg
        generalize key l = kl at *
        generalize key m = km at *
        generalize nxt km = n at *
        cases n with
        | nil =>
          have he : (([] : List UInt8) == []) = true := rfl
          have hx : Op.bytesLess kl km = true := by
            have := HSP.out
            simp at this
            exact this
          clear HSP
          go_wp2
          go_ret
          exact ⟨rfl, HB9.out⟩
        | cons y r =>
          have he : ((y :: r) == ([] : List UInt8)) = false := rfl
          have hsp := HSP.out
          simp at hsp
          have HSQ := Lib.hid hsp
          clear HSP hsp
          cases hx : Op.bytesLess kl km with
          | true =>
            clear HSQ
            go_wp2
            go_ret
            exact ⟨rfl, HB9.out⟩
          | false =>
            have hz : Op.bytesLess kl (y :: r) = false := HSQ.out hx
            clear HSQ
            go_wp2
            go_ret
            exact ⟨rfl, HB9.out⟩
  · cases g2 <;> (go_wp2; go_ret; exact ⟨rfl, HB3.out⟩)
end Go.Proofs.YtmbbfdiojcfamaaDoor.Txt
