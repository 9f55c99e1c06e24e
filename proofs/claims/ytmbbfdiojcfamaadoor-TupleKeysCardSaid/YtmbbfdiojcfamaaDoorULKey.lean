/-
  The walk of the statement TupleKeys: whatever the parts it returns true, and nothing that was there before has changed.
-/
import Derived.Test.YtmbbfdiojcfamaaDoorU11
import Derived.Laws.StructEq
namespace Go.Proofs.YtmbbfdiojcfamaaDoor.Txt
open Go.RowKit Tup
set_option maxRecDepth 100000
theorem fit_few {l : List Pt} (h : Fit l) (hok : ∀ p ∈ l, p.ok) : Few l := ⟨by have := h.1; omega, fun p hp => ⟨hok p hp, by have := h.2 p hp; omega⟩⟩
theorem fit_key {l : List Pt} (h : Fit l) : (key l).length ≤ 1548 := by
  have := key_len (M := 60) l h.2
  have h2 : l.length * (2 * 60 + 9) ≤ 12 * (2 * 60 + 9) := Nat.mul_le_mul_right _ h.1
  omega
theorem good_clean {ps : List Pt} (h : Good ps) : ps.map Pt.clean = ps := by
  have : ∀ p ∈ ps, p.clean = p := fun p hp => (h p hp).2
  induction ps with
  | nil => rfl
  | cons p ps ih => rw [List.map_cons, this p (by simp), ih (fun q hq => h q (by simp [hq])) (fun q hq => this q (by simp [hq]))]
set_option maxHeartbeats 8000000 in
theorem tupleKeys_any (l : List Pt) (A : Option Addr) (c : Nat) (w : World) (hR : Rd w w.heap.size A (cells3 l)) (hok : ∀ p ∈ l, p.ok) (hlc : l.length ≤ 9223372036854775807) (hx : Mx w) (h2 : 2 ≤ w.heap.size) :
    Calls Tryd.prog 3 #[.slice A l.length c] w fun e w' => e = .returned (.bool true) ∧ Below w.heap.size w w' := by
  have HX := Lib.hid hx
  have HR := Lib.hid hR
  have HOK := Lib.hid hok
  clear hx hR hok
  have hms := mk_size
  have hmt := mk_toList
  go_enter Tryd.func3, Tryd.ntmps3
  go_wp2_with fail
  refine (anchor_any w HX.out h2).mono ?_
  rintro e w1 ⟨rfl, hb1⟩
  have HB1 := Lib.hid hb1
  have hz1 := hb1.size
  clear hb1
  go_wp2_with fail
  refine (both_any l A c _ ((HR.out.below HB1.out).more hz1) hlc).mono ?_
  rintro e w2 ⟨hF, hb2⟩
  have HB2 : Hid (Below w.heap.size w w2) := Lib.hid (HB1.out.trans (hb2.mono hz1))
  have hz2 := HB2.out.size
  have hz12 := hb2.size
  clear hb2 HB1
  rcases hF with ⟨hfit, A2, c2, rfl, _, _, _, hR2, _⟩ | ⟨_, rfl⟩
  · have HF := Lib.hid hfit
    have HFw := Lib.hid (fit_few hfit HOK.out)
    have hkl := fit_key hfit
    have hl12 := hfit.1
    have HR2 := Lib.hid hR2
    clear hfit hR2
    go_wp2_with fail
    refine (key_any l A c _ ((HR.out.below HB2.out).more hz2) HFw.out (HX.out.below HB2.out h2) (by omega)).mono ?_
    rintro e w3 ⟨rfl, hb3⟩
    have HB3 : Hid (Below w.heap.size w w3) := Lib.hid (HB2.out.trans (hb3.mono hz2))
    have hz3 := HB3.out.size
    have HR3 : Hid (Rd w3 w3.heap.size A2 (cells3 l)) := Lib.hid ((HR2.out.below hb3).more hb3.size)
    clear hb3 HB2 HR2
    go_wp2_with fail
    refine (read_any (key l) _ (by omega)).mono ?_
    rintro e w4 ⟨hRd, hb4⟩
    have HB4 : Hid (Below w.heap.size w w4) := Lib.hid (HB3.out.trans (hb4.mono hz3))
    have hz4 := HB4.out.size
    have HR4 : Hid (Rd w4 w4.heap.size A2 (cells3 l)) := Lib.hid ((HR3.out.below hb4).more hb4.size)
    clear hb4 HB3 HR3
    rcases hRd with ⟨ps, A4, c4, hg, hkp, rfl, _, _, _, hRp, _⟩ | ⟨hno, _⟩
    · have hps : ps = l.map Pt.clean := by rw [← good_clean hg]; exact (key_inj ps l HOK.out (good_ok hg) hkp).symm
      have hpl : ps.length = l.length := by rw [hps, List.length_map]
      have HPS := Lib.hid hps
      have HRp : Hid (Rd w4 w4.heap.size A4 (cells3 ps)) := Lib.hid hRp
      rw [hpl]
      clear hRp hg hkp hps hpl
      go_wp2_with fail
      refine (rkey_any l A2 c2 _ HR4.out HFw.out hl12 HF.out.2).mono ?_
      rintro e w5 ⟨rfl, hb5⟩
      have HB5 : Hid (Below w.heap.size w w5) := Lib.hid (HB4.out.trans (hb5.mono hz4))
      have hz5 := HB5.out.size
      have HRp5 : Hid (Rd w5 w5.heap.size A4 (cells3 ps)) := Lib.hid ((HRp.out.below hb5).more hb5.size)
      clear hb5 HB4 HR4 HRp
      generalize key l = kl at *
      have hne : (kl != kl) = false := by rw [bne_eq_false_iff_eq]
      have hll : ((l.length : Int) != (l.length : Int)) = false := by rw [bne_eq_false_iff_eq]
      go_wp2
      go_loopw [43] (fun v wr => ∃ k : Nat, k ≤ l.length ∧ v = .int .i64 k ∧ Below w5.heap.size w5 wr) (fun v _ => l.length - (intOf v).toNat)
      case atStart => exact ⟨0, by omega, rfl, Below.refl _ _⟩
      case round =>
        obtain ⟨k, hk, rfl, hb⟩ := hrel
        have HB := Lib.hid hb
        have HBw : Hid (Below w.heap.size w wr) := Lib.hid (HB5.out.trans (hb.mono hz5))
        have hz := hb.size
        have hzw := HBw.out.size
        clear hb
        by_cases hlt : k < l.length
        · obtain ⟨ad, rfl, hadb, hcs⟩ := HR.out.below HBw.out (by rw [cells3_length]; omega)
          obtain ⟨q, hq⟩ : ∃ q, l[k]? = some q := ⟨l[k], List.getElem?_eq_getElem hlt⟩
          obtain ⟨e0, e1, e2⟩ := cells3_get l k q hq
          have hc0 := hcs _ _ e0
          have hc1 : wr.cell? ⟨(ad.add (k * 3)).block, (ad.add (k * 3)).off + 1, none⟩ = some (.int .i64 q.n) := by have := hcs _ _ e1; rw [← add_add] at this; exact this
          have hc2 : wr.cell? ⟨(ad.add (k * 3)).block, (ad.add (k * 3)).off + 2, none⟩ = some (.string (mk q.t)) := by have := hcs _ _ e2; rw [← add_add] at this; exact this
          have hqt := (HFw.out.2 q (List.mem_of_getElem? hq)).2
          have HW : Hid (Below w5.heap.size w5 (wr.alloc (.cells #[.bool q.num, .int .i64 q.n, .string (mk q.t)] 33))) := Lib.hid (HB.out.alloc hz _)
          have HK := Lib.hid (Blk.new wr 33 #[.bool q.num, .int .i64 q.n, .string (mk q.t)])
          obtain ⟨ad', rfl, hadb', hcs'⟩ := HRp5.out.below HW.out (by rw [cells3_length, HPS.out, List.length_map]; omega)
          have hpk : ps[k]? = some q.clean := by rw [HPS.out, List.getElem?_map, hq]; rfl
          obtain ⟨x0, x1, x2⟩ := cells3_get ps k q.clean hpk
          have hd0 := hcs' _ _ x0
          have hd1 : (wr.alloc (.cells #[.bool q.num, .int .i64 q.n, .string (mk q.t)] 33)).cell? ⟨(ad'.add (k * 3)).block, (ad'.add (k * 3)).off + 1, none⟩ = some (.int .i64 q.clean.n) := by have := hcs' _ _ x1; rw [← add_add] at this; exact this
          have hd2 : (wr.alloc (.cells #[.bool q.num, .int .i64 q.n, .string (mk q.t)] 33)).cell? ⟨(ad'.add (k * 3)).block, (ad'.add (k * 3)).off + 2, none⟩ = some (.string (mk q.clean.t)) := by have := hcs' _ _ x2; rw [← add_add] at this; exact this
          clear hcs e0 e1 e2 hcs' x0 x1 x2 hq hpk hadb hadb'
          have hkl2 : (k : Int) < (l.length : Int) := by omega
          have hn1 : (q.clean.t == q.clean.t) = true := by rw [beq_iff_eq]
          obtain ⟨r, hr⟩ : ∃ r, q.clean = r := ⟨_, rfl⟩
          have hzW : wr.heap.size + 1 = (wr.alloc (.cells #[.bool q.num, .int .i64 q.n, .string (mk q.t)] 33)).heap.size := by simp
          have hadk : (ad'.add (k * 3)).block < wr.heap.size + 1 := by
            by_cases hlt' : (ad'.add (k * 3)).block < wr.heap.size + 1
            · exact hlt'
            · exfalso
              have : (wr.alloc (.cells #[.bool q.num, .int .i64 q.n, .string (mk q.t)] 33)).heap[(ad'.add (k * 3)).block]? = none := Array.getElem?_eq_none (by omega)
              unfold World.cell? at hd0
              rw [this] at hd0
              cases hd0
          have HAK := Lib.hid hadk
          have HZW := Lib.hid hzW
          clear hadk hzW
          have HC := Lib.hid (fun w => (hr ▸ clean_any q w hqt : Calls Tryd.prog 13 #[Pv q] w fun e w' => e = .returned (Pv r) ∧ Below w.heap.size w w'))
          rw [hr] at hd0 hd1 hd2 hn1
          clear hr
          go_wp2_with fail
          go_region_law (go_simp; go_at_call 13; refine (HC.out _).mono ?_; rintro e w6 ⟨rfl, hb6⟩; unfold Pv; have hb7 : Below (wr.alloc (.cells #[.bool q.num, .int .i64 q.n, .string (mk q.t)] 33)).heap.size (wr.alloc (.cells #[.bool q.num, .int .i64 q.n, .string (mk q.t)] 33)) w6 := ((Below.refl _ _).drew).trans hb6; have d0 : w6.cell? (ad'.add (k * 3)) = some (.bool r.num) := (hb7.cell (by have := HAK.out; have := HZW.out; omega)).trans hd0; have d1 : w6.cell? ⟨(ad'.add (k * 3)).block, (ad'.add (k * 3)).off + 1, none⟩ = some (.int .i64 r.n) := (hb7.cell (p := ⟨(ad'.add (k * 3)).block, (ad'.add (k * 3)).off + 1, none⟩) (by show (ad'.add (k * 3)).block < _; have := HAK.out; have := HZW.out; omega)).trans hd1; have d2 : w6.cell? ⟨(ad'.add (k * 3)).block, (ad'.add (k * 3)).off + 2, none⟩ = some (.string (mk r.t)) := (hb7.cell (p := ⟨(ad'.add (k * 3)).block, (ad'.add (k * 3)).off + 2, none⟩) (by show (ad'.add (k * 3)).block < _; have := HAK.out; have := HZW.out; omega)).trans hd2; have HB6 : Hid (Below w5.heap.size w5 w6) := Lib.hid (HW.out.trans (hb7.mono HW.out.size)); clear hb6 hb7)
          all_goals
            go_wp2
            go_roundw
            case rel => exact ⟨k + 1, by omega, by go_num, HB6.out⟩
            case measure => simp [intOf]; omega
        · have hge : (l.length : Int) ≤ (k : Int) := by omega
          go_wp2
          go_ret
          exact ⟨rfl, HBw.out⟩
    · exact absurd ⟨l, HOK.out, rfl⟩ hno
  · go_wp2
    go_ret
    exact ⟨rfl, HB2.out⟩
end Go.Proofs.YtmbbfdiojcfamaaDoor.Txt
