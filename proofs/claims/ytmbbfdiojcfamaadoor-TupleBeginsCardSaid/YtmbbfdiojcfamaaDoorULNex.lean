/-
  The walk of the statement TupleNext: whatever the texts it returns true, and nothing that was there before has changed.
-/
import Derived.Test.YtmbbfdiojcfamaaDoorU11
namespace Go.Proofs.YtmbbfdiojcfamaaDoor.Txt
open Go.RowKit Tup
set_option maxRecDepth 100000
theorem hasP_any (l m : List UInt8) (w : World) :
    Calls Tryd.prog 20 #[.string (mk l), .string (mk m)] w fun e w' => e = .returned (.bool (m.isPrefixOf l)) ∧ w' = w := by
  refine (hasPrefix_any (mk l) (mk m) w).mono ?_
  rintro e w' ⟨rfl, rfl⟩
  rw [mk_data, mk_data]
  exact ⟨rfl, rfl⟩
set_option maxHeartbeats 4000000 in
theorem tupleNext_any (m s : List UInt8) (w : World) (hm : m.length ≤ 9223372036854775807) (hs : s.length ≤ 9223372036854775807) (hx : Mx w) (h2 : 2 ≤ w.heap.size) :
    Calls Tryd.prog 7 #[.string (mk m), .string (mk s)] w fun e w' => e = .returned (.bool true) ∧ Below w.heap.size w w' := by
  have HX := Lib.hid hx
  clear hx
  have hms := mk_size
  have hmt := mk_toList
  go_enter Tryd.func7, Tryd.ntmps7
  go_wp2_with fail
  refine (anchor_any w HX.out h2).mono ?_
  rintro e w1 ⟨rfl, hb1⟩
  have HB1 := Lib.hid hb1
  have hz1 := hb1.size
  clear hb1
  by_cases h100 : 100 < m.length
  · have hd : (100 : Int) < (m.length : Int) := by omega
    go_wp2
    go_ret
    exact ⟨rfl, HB1.out⟩
  have hd : (m.length : Int) ≤ (100 : Int) := by omega
  by_cases h200 : 200 < s.length
  · have hd2 : (200 : Int) < (s.length : Int) := by omega
    go_wp2
    go_ret
    exact ⟨rfl, HB1.out⟩
  have hd2 : (s.length : Int) ≤ (200 : Int) := by omega
  have hsp := nxt_spec m s
  rw [← less_cmp, ← less_cmp] at hsp
  have hgt := nxt_gt m
  have HN : Hid (nxt m ≠ [] → Op.bytesLess (nxt m) m = false ∧ (nxt m == m) = false) := Lib.hid (fun h => by
    have := hgt h
    refine ⟨by rw [less_cmp, this]; rfl, ?_⟩
    rw [beq_eq_false_iff_ne]
    intro e
    rw [e, cmp_self] at this
    cases this)
  clear hgt h100 h200
  go_wp2_with fail
  refine (next_any m _ (by omega)).mono ?_
  rintro e w2 ⟨rfl, hb2⟩
  have HB2 : Hid (Below w.heap.size w w2) := Lib.hid (HB1.out.trans (hb2.mono hz1))
  clear hb2 HB1
  generalize nxt m = n at *
  go_wp2_with fail
  refine (hasP_any s m _).mono ?_
  rintro e w3 ⟨rfl, rfl⟩
  cases hn : n with
  | nil =>
    rw [hn] at hsp
    have he : (([] : List UInt8) == []) = true := rfl
    have hsp2 : m.isPrefixOf s = !Op.bytesLess s m := by rw [hsp]; simp
    clear hsp HN hn
    generalize m.isPrefixOf s = b at *
    subst hsp2
    cases hx : Op.bytesLess s m <;> (go_wp2; go_ret; exact ⟨rfl, HB2.out⟩)
  | cons y r =>
    rw [hn] at hsp
    obtain ⟨g1, g2⟩ := HN.out (by rw [hn]; simp)
    rw [hn] at g1 g2
    have he : ((y :: r) == ([] : List UInt8)) = false := rfl
    have hsp2 : m.isPrefixOf s = (!Op.bytesLess s m && Op.bytesLess s (y :: r)) := by rw [hsp]; simp
    clear hsp HN hn
    generalize m.isPrefixOf s = b at *
    subst hsp2
    cases hx : Op.bytesLess s m <;> cases hz : Op.bytesLess s (y :: r) <;> (go_wp2; go_ret; exact ⟨rfl, HB2.out⟩)
end Go.Proofs.YtmbbfdiojcfamaaDoor.Txt
