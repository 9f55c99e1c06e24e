/-
  The walk of the statement TextForms: whatever the string it returns true, and nothing that was there before has changed.
-/
import Derived.Test.YtchlikigjijdkaaDoorTA
import Derived.Test.YtchlikigjijdkaaDoorT14
namespace Go.Proofs.YtchlikigjijdkaaDoor.Txt
open Go.RowKit
set_option maxRecDepth 100000
theorem good_one {l : List Pr} (h : Good l) {i k : Nat} {p q : Pr} (hi : l[i]? = some p) (hk : l[k]? = some q) (he : p.1 = q.1) : p = q := by
  have h1 : (l.map (·.1))[i]? = some p.1 := by simp [hi]
  have h2 : (l.map (·.1))[k]? = some q.1 := by simp [hk]
  have hil : i < (l.map (·.1)).length := (List.getElem?_eq_some_iff.1 h1).1
  have hik : i = k := (List.getElem?_inj hil h.2).1 (by rw [h1, h2, he])
  subst hik
  exact Option.some.inj (hi.symm.trans hk)
set_option maxHeartbeats 4000000 in
theorem textForms_any (l : List UInt8) (w : World) (hT : Tabs w) (hm : l.length ≤ 9223372036854775807) :
    Calls Tryd.prog 7 #[.string (mk l)] w fun e w' => e = .returned (.bool true) ∧ Below w.heap.size w w' := by
  have h2 := hT.two
  have HT := Lib.hid hT
  clear hT
  have hms := mk_size
  have hmt := mk_toList
  go_enter Tryd.func7, Tryd.ntmps7
  go_wp2_with fail
  refine (anchor_any w HT.out).mono ?_
  rintro e w1 ⟨rfl, hb1⟩
  have HB1 := Lib.hid hb1
  have hz1 := hb1.size
  clear hb1
  by_cases hlen : 1500 < l.length
  · have hd1 : (1500 : Int) < (l.length : Int) := by omega
    go_wp2
    go_ret
    exact ⟨rfl, HB1.out⟩
  · have hd1 : (l.length : Int) ≤ (1500 : Int) := by omega
    obtain ⟨hg, hl32, hgM, _, _⟩ := form_good l
    have HG := Lib.hid hg
    have HM : Hid (∀ q ∈ (form l).1, q.2.length ≤ 10000000) := Lib.hid (fun q hq => by have := (hgM q hq).2; omega)
    clear hg hgM
    have HRF := Lib.hid (fun w => rform_any l w (by omega))
    go_wp2_with fail
    refine (form_any l w1 (HT.out.below HB1.out h2) (by omega) (by omega)).mono ?_
    rintro e w2 ⟨⟨A, c, rfl, _, _, _, hRd, _⟩, hb2⟩
    have HB2 : Hid (Below w.heap.size w w2) := Lib.hid (HB1.out.trans (hb2.mono hz1))
    have hz2 := HB2.out.size
    have HR := Lib.hid hRd
    clear hb2 hRd HB1
    generalize form l = r at *
    obtain ⟨ps, ec⟩ := r
    simp only at HG HM hl32 HR
    simp only
    go_wp2_with fail
    refine (HRF.out w2).mono ?_
    rintro e w3 ⟨⟨A', c', rfl, _, _, _, hRd', _⟩, hb3⟩
    have HB3 : Hid (Below w.heap.size w w3) := Lib.hid (HB2.out.trans (hb3.mono hz2))
    have HR1 : Hid (Rd w3 w3.heap.size A (cells2 ps)) := Lib.hid ((HR.out.below hb3).more hb3.size)
    have HR2 : Hid (Rd w3 w3.heap.size A' (cells2 ps)) := Lib.hid hRd'
    have hz3 := HB3.out.size
    clear hb3 hRd' HRF HR HB2
    have hcc : ((ec : Int) == (ec : Int)) = true := by rw [beq_iff_eq]
    have hll : ((ps.length : Int) == (ps.length : Int)) = true := by rw [beq_iff_eq]
    go_wp2
    go_loopw [40] (fun v wr => ∃ k : Nat, k ≤ ps.length ∧ v = .int .i64 k ∧ Below w3.heap.size w3 wr) (fun v _ => ps.length - (intOf v).toNat)
    case atStart => exact ⟨0, by omega, rfl, Below.refl _ _⟩
    case round =>
      obtain ⟨k, hk, rfl, hb⟩ := hrel
      have HB := Lib.hid hb
      have hz := hb.size
      clear hb
      by_cases hlt : k < ps.length
      · obtain ⟨q, hq⟩ : ∃ q, ps[k]? = some q := ⟨ps[k], List.getElem?_eq_getElem hlt⟩
        obtain ⟨e0, e1⟩ := cells2_get ps k q hq
        have HQ := Lib.hid hq
        obtain ⟨ad, rfl, hadb, hcs⟩ := HR1.out.below HB.out (by rw [cells2_length]; omega)
        obtain ⟨ad', rfl, hadb', hcs'⟩ := HR2.out.below HB.out (by rw [cells2_length]; omega)
        have hc0 := hcs _ _ e0
        have hc1 : wr.cell? ⟨(ad.add (k * 2)).block, (ad.add (k * 2)).off + 1, none⟩ = some (.string (mk q.2)) := by have := hcs _ _ e1; rw [← add_add] at this; exact this
        have hx0 := hcs' _ _ e0
        have hx1 : wr.cell? ⟨(ad'.add (k * 2)).block, (ad'.add (k * 2)).off + 1, none⟩ = some (.string (mk q.2)) := by have := hcs' _ _ e1; rw [← add_add] at this; exact this
        have hbl : Below wr.heap.size wr (wr.alloc (.cells #[.string (mk q.1), .string (mk q.2)] 38)) := (Below.refl _ _).alloc (Nat.le_refl _) _
        have hy0 : (wr.alloc (.cells #[.string (mk q.1), .string (mk q.2)] 38)).cell? (ad'.add (k * 2)) = some (.string (mk q.1)) := (hbl.cell (by rw [block_add]; omega)).trans hx0
        have hy1 : (wr.alloc (.cells #[.string (mk q.1), .string (mk q.2)] 38)).cell? ⟨(ad'.add (k * 2)).block, (ad'.add (k * 2)).off + 1, none⟩ = some (.string (mk q.2)) := (hbl.cell (p := ⟨(ad'.add (k * 2)).block, (ad'.add (k * 2)).off + 1, none⟩) (by show (ad'.add (k * 2)).block < _; rw [block_add]; omega)).trans hx1
        have HK := Lib.hid (Blk.new wr 38 #[.string (mk q.1), .string (mk q.2)])
        have hk0 := HK.out.cell 0
        have hk1 := HK.out.cell 1
        have HBW : Hid (Below w3.heap.size w3 (wr.alloc (.cells #[.string (mk q.1), .string (mk q.2)] 38))) := Lib.hid (HB.out.alloc hz _)
        have hS : (wr.alloc (.cells #[.string (mk q.1), .string (mk q.2)] 38)).heap.size = wr.heap.size + 1 := by simp
        clear hcs hcs' hbl e0 e1 hx0 hx1 hq
        have hn1 : (q.1 == q.1) = true := by rw [beq_iff_eq]
        have hn2 : (q.2 == q.2) = true := by rw [beq_iff_eq]
        go_wp2_with fail
        generalize (wr.alloc (.cells #[.string (mk q.1), .string (mk q.2)] 38)) = W at *
        have hk0' : W.cell? ⟨wr.heap.size, 0, none⟩ = some (.string (mk q.1)) := hk0
        have hk1' : W.cell? ⟨wr.heap.size, 1, none⟩ = some (.string (mk q.2)) := hk1
        clear hk0 hk1
        have hkl : (k : Int) < (ps.length : Int) := by omega
        go_quiet (fail)
        have HBn : Hid (Below W.heap.size W (W.drewN nq)) := Lib.hid (drew_n (Below.refl _ _) nq)
        have hSn : W.heap.size ≤ (W.drewN nq).heap.size := HBn.out.size
        have HK2 := Lib.hid (HK.out.below HBn.out (by omega))
        have HB4 : Hid (Below w3.heap.size w3 (W.drewN nq)) := Lib.hid (drew_n HBW.out nq)
        have hp0 : (W.drewN nq).cell? ⟨wr.heap.size, 0, none⟩ = some (.string (mk q.1)) := HK2.out.cell 0
        generalize W.drewN nq = W2 at *
        clear HBn HK HBW hk0' hk1' hy0 hy1
        go_wp2_with fail
        refine (get_any ps q.1 (some ad) c W2 ((HR1.out.below HB4.out).more HB4.out.size) (by omega) HM.out).mono ?_
        rintro e w5 ⟨hGot, hb5⟩
        have HB5 : Hid (Below w3.heap.size w3 w5) := Lib.hid (HB4.out.trans (hb5.mono HB4.out.size))
        have HK5 := Lib.hid (HK2.out.below hb5 (by omega))
        have hp1 : w5.cell? ⟨wr.heap.size, 1, none⟩ = some (.string (mk q.2)) := HK5.out.cell 1
        clear hb5 HB4 HK2 hp0
        rcases hGot with ⟨i, p, hi, hpn, _, rfl⟩ | ⟨hno, _⟩
        · obtain rfl := good_one HG.out hi HQ.out hpn
          clear hi hpn
          go_wp2
          go_roundw
          case rel => exact ⟨k + 1, by omega, by go_num, HB5.out⟩
          case measure => simp [intOf]; omega
        · exact absurd rfl (hno q (List.mem_of_getElem? HQ.out))
      · have hge : (ps.length : Int) ≤ (k : Int) := by omega
        go_wp2_with fail
        refine (get_any ps [] A c wr ((HR1.out.below HB.out).more hz) (by omega) HM.out).mono ?_
        rintro e w5 ⟨hGot, hb5⟩
        have HB5 : Hid (Below w.heap.size w w5) := Lib.hid ((HB3.out.trans (HB.out.mono hz3)).trans (hb5.mono (by omega)))
        clear hb5
        rcases hGot with ⟨i, p, hi, hpn, _, rfl⟩ | ⟨hno, rfl⟩
        · exact absurd hpn (HG.out.1 p (List.mem_of_getElem? hi))
        · clear hno
          go_wp2
          go_ret
          exact ⟨rfl, HB5.out⟩
end Go.Proofs.YtchlikigjijdkaaDoor.Txt
