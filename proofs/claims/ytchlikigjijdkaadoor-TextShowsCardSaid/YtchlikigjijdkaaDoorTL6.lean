/-
  The walk of the statement TextShows: whatever the pairs it returns true, and nothing that was there before has changed; and a slice of pairs that came in.
-/
import Derived.Test.YtchlikigjijdkaaDoorTLaw
import Derived.Deep.SlicePairs
import Derived.Laws.StructEq
namespace Go.Proofs.YtchlikigjijdkaaDoor.Txt
open Go.RowKit
set_option maxRecDepth 100000
def strOf : Value → List UInt8
  | .string s => s.data.toList
  | _ => []
/-- A slice of pairs that came in. -/
theorem open_pairs {H : Type} {enc : TypeId × Value → H} {W : World} {a0 : Option Addr} {len cap : Nat} {d : DataW H} {p : List MemPlace} (h : DataW.Trod enc Tryd.prog W 0 (fun _ => true) true 31 (.slice a0 len cap) d p) :
    ∃ bs : List Pr, bs.length = len ∧ cap ≤ maxLen ∧ len ≤ cap ∧ Rd W W.heap.size a0 (cells2 bs) := by
  obtain ⟨fuel, hf⟩ := h
  rcases Deep.open_slice_pairs Tryd.underlying31 Tryd.underlying38 (by kernel_rfl) rfl rfl (by kernel_rfl) (by kernel_rfl) hf with ⟨hcs, _⟩ | ⟨x, l, c, m, n, V0, V1, D0, D1, P0, P1, hcs, _, hl, hm, hmm, _, hx⟩
  · simp [Value.cells] at hcs
    obtain ⟨rfl, rfl, rfl⟩ := hcs
    exact ⟨[], rfl, Nat.zero_le _, Nat.le_refl _, Rd.nil _ _ _⟩
  · simp [Value.cells] at hcs
    obtain ⟨rfl, rfl, rfl⟩ := hcs
    simp only [if_true] at hmm
    subst hmm
    have key : ∀ i, i < len → W.cell? (x.add (i * 2)) = some (.string (mk (strOf (V0 i)))) ∧ W.cell? (x.add (i * 2 + 1)) = some (.string (mk (strOf (V1 i)))) := fun i hi => by
      obtain ⟨h0, h1, t0, t1⟩ := hx i (by omega)
      obtain ⟨s0, e0, _⟩ := DataW.trod_string Tryd.underlying9 t0
      obtain ⟨s1, e1, _⟩ := DataW.trod_string Tryd.underlying9 t1
      injection e0 with e0 _
      injection e1 with e1 _
      rw [h0, h1, e0, e1]
      unfold strOf
      rw [of_mk, of_mk]
      exact ⟨rfl, rfl⟩
    refine ⟨(List.range len).map fun i => (strOf (V0 i), strOf (V1 i)), by simp, hm, hl, fun hp => ⟨x, rfl, ?_, fun j u hu => ?_⟩⟩
    · rw [cells2_length] at hp
      simp only [List.length_map, List.length_range] at hp
      have := block_lt_of_cell (key 0 (by omega)).1
      rwa [block_add] at this
    · have hj : j < (cells2 ((List.range len).map fun i => (strOf (V0 i), strOf (V1 i)))).length := (List.getElem?_eq_some_iff.1 hu).1
      rw [cells2_length] at hj
      simp only [List.length_map, List.length_range] at hj
      have hi : j / 2 < len := by omega
      have hg := cells2_get ((List.range len).map fun i => (strOf (V0 i), strOf (V1 i))) (j / 2) (strOf (V0 (j / 2)), strOf (V1 (j / 2))) (by simp [hi])
      rcases Nat.mod_two_eq_zero_or_one j with hj2 | hj2
      · have e : j / 2 * 2 = j := by omega
        rw [e] at hg
        rw [hg.1] at hu
        injection hu with hu
        rw [← hu]
        have := (key (j / 2) hi).1
        rwa [e] at this
      · have e : j / 2 * 2 + 1 = j := by omega
        rw [e] at hg
        rw [hg.2] at hu
        injection hu with hu
        rw [← hu]
        have := (key (j / 2) hi).2
        rwa [e] at this
/-- Pairs that the statement speaks of. -/
def Fit (l : List Pr) : Prop := Good l ∧ ∀ q ∈ l, (q.1.length ≤ 100 ∧ q.2.length ≤ 100) ∧ wrong q.1 0 < 0 ∧ wrong q.2 0 < 0
theorem fit_nil : Fit [] := ⟨⟨fun q hq => (by cases hq), by simp⟩, fun q hq => (by cases hq)⟩
theorem fit_snoc {l : List Pr} {q : Pr} (h : Fit l) (h0 : q.1 ≠ []) (h1 : q.1.length ≤ 100) (h2 : q.2.length ≤ 100) (h3 : wrong q.1 0 < 0) (h4 : wrong q.2 0 < 0) (h5 : ∀ p ∈ l, p.1 ≠ q.1) : Fit (l ++ [q]) := by
  refine ⟨good_snoc h.1 h0 (has_not h5), fun p hp => ?_⟩
  rcases List.mem_append.1 hp with hp | hp
  · exact h.2 p hp
  · rw [List.mem_singleton.1 hp]
    exact ⟨⟨h1, h2⟩, h3, h4⟩
set_option maxHeartbeats 8000000 in
theorem textShows_any (l : List Pr) (A : Option Addr) (c : Nat) (w : World) (hR : Rd w w.heap.size A (cells2 l)) (hlc : l.length ≤ c) (hcm : c ≤ 9223372036854775807) (hT : Tabs w) :
    Calls Tryd.prog 8 #[.slice A l.length c] w fun e w' => e = .returned (.bool true) ∧ Below w.heap.size w w' := by
  have h2 := hT.two
  have HT := Lib.hid hT
  have HR0 := Lib.hid hR
  clear hT hR
  have hms := mk_size
  have hmt := mk_toList
  go_enter Tryd.func8, Tryd.ntmps8
  go_wp2_with fail
  refine (anchor_any w HT.out).mono ?_
  rintro e w1 ⟨rfl, hb1⟩
  have HB1 := Lib.hid hb1
  have hz1 := hb1.size
  clear hb1
  by_cases hlen : 32 < l.length
  · have hd1 : (32 : Int) < (l.length : Int) := by omega
    go_wp2
    go_ret
    exact ⟨rfl, HB1.out⟩
  have hd1 : (l.length : Int) ≤ (32 : Int) := by omega
  go_wp2
  go_loopw [19] (fun v wr => ∃ k : Nat, k ≤ l.length ∧ v = .int .i64 k ∧ Fit (l.take k) ∧ Below w.heap.size w wr) (fun v _ => l.length - (intOf v).toNat)
  case atStart => exact ⟨0, by omega, rfl, fit_nil, HB1.out⟩
  case round =>
    obtain ⟨k, hk, rfl, hfit, hb⟩ := hrel
    obtain ⟨wo, hwo⟩ : ∃ wo, wo = wr := ⟨_, rfl⟩
    subst hwo
    have HFit := Lib.hid hfit
    have HB := Lib.hid hb
    have hz := hb.size
    clear hfit hb
    by_cases hlt : k < l.length
    · obtain ⟨q, hq⟩ : ∃ q, l[k]? = some q := ⟨l[k], List.getElem?_eq_getElem hlt⟩
      obtain ⟨e0, e1⟩ := cells2_get l k q hq
      have HQ := Lib.hid hq
      obtain ⟨ad, rfl, hadb, hcs⟩ := HR0.out.below HB.out (by rw [cells2_length]; omega)
      have hc0 := hcs _ _ e0
      have hc1 : wo.cell? ⟨(ad.add (k * 2)).block, (ad.add (k * 2)).off + 1, none⟩ = some (.string (mk q.2)) := by have := hcs _ _ e1; rw [← add_add] at this; exact this
      have HK := Lib.hid (Blk.new wo 38 #[.string (mk q.1), .string (mk q.2)])
      have HBW : Hid (Below w.heap.size w (wo.alloc (.cells #[.string (mk q.1), .string (mk q.2)] 38))) := Lib.hid (HB.out.alloc hz _)
      have hS : (wo.alloc (.cells #[.string (mk q.1), .string (mk q.2)] 38)).heap.size = wo.heap.size + 1 := by simp
      clear hcs e0 e1 hq
      by_cases l1 : 100 < q.1.length
      · have l1' : (100 : Int) < (q.1.length : Int) := by omega
        go_wp2
        go_ret
        exact ⟨rfl, HBW.out⟩
      have l1' : (q.1.length : Int) ≤ (100 : Int) := by omega
      by_cases l2 : 100 < q.2.length
      · have l2' : (100 : Int) < (q.2.length : Int) := by omega
        go_wp2
        go_ret
        exact ⟨rfl, HBW.out⟩
      have l2' : (q.2.length : Int) ≤ (100 : Int) := by omega
      by_cases l3 : q.1 = []
      · have l3' : (q.1 == ([] : List UInt8)) = true := by rw [beq_iff_eq]; exact l3
        have l3'' : q.1.isEmpty = true := by rw [List.isEmpty_iff]; exact l3
        have l4 := Lib.hid l3
        clear l3
        go_wp2
        go_ret
        exact ⟨rfl, HBW.out⟩
      have l3' : (q.1 == ([] : List UInt8)) = false := by rw [beq_eq_false_iff_ne]; exact l3
      have l3'' : q.1.isEmpty = false := by rw [List.isEmpty_eq_false_iff]; exact l3
      have HD1 := Lib.hid (fun w hT h2 => told_any q.1 w hT h2 (by omega))
      have HD2 := Lib.hid (fun w hT h2 => told_any q.2 w hT h2 (by omega))
      have L3 := Lib.hid l3
      clear l3
      go_wp2_with fail
      refine (HD1.out _ (HT.out.below HBW.out h2) (by rw [hS]; omega)).mono ?_
      rintro e w3 ⟨rfl, hb3⟩
      have HB3 : Hid (Below w.heap.size w w3) := Lib.hid (HBW.out.trans (hb3.mono (by rw [hS]; omega)))
      have HK3 := Lib.hid (HK.out.below hb3 (by rw [hS]; omega))
      have hz3 : wo.heap.size + 1 ≤ w3.heap.size := by have := hb3.size; rw [hS] at this; exact this
      have p0 : w3.cell? ⟨wo.heap.size, 0, none⟩ = some (.string (mk q.1)) := HK3.out.cell 0
      have p1 : w3.cell? ⟨wo.heap.size, 1, none⟩ = some (.string (mk q.2)) := HK3.out.cell 1
      clear hb3 HD1 HK HBW hS
      by_cases t1 : wrong q.1 0 < 0
      · rw [decide_eq_true t1]
        have T1 := Lib.hid t1
        clear t1
        go_wp2_with fail
        refine (HD2.out _ (HT.out.below HB3.out h2) (by omega)).mono ?_
        rintro e w4 ⟨rfl, hb4⟩
        have HB4 : Hid (Below w.heap.size w w4) := Lib.hid (HB3.out.trans (hb4.mono (by omega)))
        have HK4 := Lib.hid (HK3.out.below hb4 (by omega))
        have hz4 := hb4.size
        clear hb4 HD2 HK3 HB3 p0 p1
        by_cases t2 : wrong q.2 0 < 0
        · rw [decide_eq_true t2]
          have T2 := Lib.hid t2
          clear t2
          have hkc : (k : Int) ≤ (c : Int) := by omega
          go_wp2
          go_loopw [55] (fun v wj => ∃ j : Nat, j ≤ k ∧ v = .int .i64 j ∧ (∀ (i : Nat) (p : Pr), i < j → l[i]? = some p → p.1 ≠ q.1) ∧ Below w4.heap.size w4 wj) (fun v _ => k - (intOf v).toNat)
          case atStart => exact ⟨0, by omega, rfl, fun i p h => by omega, Below.refl _ _⟩
          case round =>
            obtain ⟨j, hj, rfl, hno, hb5⟩ := hrel
            have HN := Lib.hid hno
            have HB5 := Lib.hid hb5
            have hz5 := hb5.size
            have HBw : Hid (Below w.heap.size w wr) := Lib.hid (HB4.out.trans (hb5.mono (by omega)))
            have HK5 := Lib.hid (HK4.out.below hb5 (by omega))
            clear hno hb5
            by_cases hjk : j < k
            · obtain ⟨p, hp⟩ : ∃ p, l[j]? = some p := ⟨l[j]'(by omega), List.getElem?_eq_getElem (by omega)⟩
              obtain ⟨f0, f1⟩ := cells2_get l j p hp
              have HP := Lib.hid hp
              obtain ⟨ad2, had2, _, hcs2⟩ := HR0.out.below HBw.out (by rw [cells2_length]; omega)
              injection had2 with had2
              subst had2
              have g0 := hcs2 _ _ f0
              have g1 : wr.cell? ⟨(ad.add (j * 2)).block, (ad.add (j * 2)).off + 1, none⟩ = some (.string (mk p.2)) := by have := hcs2 _ _ f1; rw [← add_add] at this; exact this
              have hblr : Below wr.heap.size wr (wr.alloc (.cells #[.string (mk p.1), .string (mk p.2)] 38)) := (Below.refl _ _).alloc (Nat.le_refl _) _
              have r0 : (wr.alloc (.cells #[.string (mk p.1), .string (mk p.2)] 38)).cell? ⟨wo.heap.size, 0, none⟩ = some (.string (mk q.1)) := (HK5.out.below hblr HK5.out.lt).cell 0
              have HBx : Hid (Below w4.heap.size w4 (wr.alloc (.cells #[.string (mk p.1), .string (mk p.2)] 38))) := Lib.hid (HB5.out.alloc hz5 _)
              have HBy : Hid (Below w.heap.size w (wr.alloc (.cells #[.string (mk p.1), .string (mk p.2)] 38))) := Lib.hid (HBw.out.alloc HBw.out.size _)
              clear hcs2 f0 f1 hp hblr
              have hjk' : (j : Int) < (k : Int) := by omega
              by_cases he : p.1 = q.1
              · have he' : (p.1 == q.1) = true := by rw [beq_iff_eq]; exact he
                clear he
                go_wp2
                go_ret
                exact ⟨rfl, HBy.out⟩
              · have he' : (p.1 == q.1) = false := by rw [beq_eq_false_iff_ne]; exact he
                have HN2 : Hid (∀ (i : Nat) (p : Pr), i < j + 1 → l[i]? = some p → p.1 ≠ q.1) := Lib.hid (fun i p' hi hp' => by
                  by_cases hij : i = j
                  · subst hij
                    rw [HP.out] at hp'
                    injection hp' with hp'
                    rw [← hp']
                    exact he
                  · exact HN.out i p' (by omega) hp')
                clear he
                go_wp2
                go_roundw
                case rel => exact ⟨j + 1, by omega, by go_num, HN2.out, HBx.out⟩
                case measure => simp [intOf]; omega
            · have hjk' : (k : Int) ≤ (j : Int) := by omega
              have HF2 : Hid (Fit (l.take (k + 1))) := Lib.hid (by
                rw [take_pair l k q HQ.out]
                refine fit_snoc HFit.out L3.out (by omega) (by omega) T1.out T2.out (fun p hp => ?_)
                obtain ⟨i, hi, rfl⟩ := List.getElem_of_mem hp
                rw [List.length_take] at hi
                exact HN.out i _ (by omega) (by rw [List.getElem_take]; exact List.getElem?_eq_getElem (by omega)))
              go_wp2
              go_roundw
              case rel => exact ⟨k + 1, by omega, by go_num, HF2.out, HBw.out⟩
              case measure => simp [intOf]; omega
        · rw [decide_eq_false t2]
          clear t2
          go_wp2
          go_ret
          exact ⟨rfl, HB4.out⟩
      · rw [decide_eq_false t1]
        clear t1
        go_wp2
        go_ret
        exact ⟨rfl, HB3.out⟩
    · obtain rfl : k = l.length := by omega
      rw [List.take_length] at HFit
      have hlens : ∀ q ∈ l, q.1.length ≤ 100 ∧ q.2.length ≤ 100 := fun q hq => (HFit.out.2 q hq).1
      have hM : ∀ q ∈ l, q.1.length ≤ 2000 ∧ q.2.length ≤ 2000 := fun q hq => by have := hlens q hq; omega
      have hsl : (shown l).length ≤ 32 * (6 * 100 + 2) := Nat.le_trans (shown_len (M := 100) l hlens) (Nat.mul_le_mul_right _ (by omega))
      have HSF : Hid (form (shown l) = (l, 0)) := Lib.hid (form_shown l (by omega) HFit.out.1 (fun q hq => (HFit.out.2 q hq).2))
      have HM := Lib.hid hM
      clear hlens hM
      have HFm := Lib.hid (fun w hT h2 => form_any (shown l) w hT h2 (by omega))
      rw [HSF.out] at HFm
      have HSh := Lib.hid (fun A c w hR => show_any l A c w hR (by omega) HM.out)
      generalize shown l = sl at *
      have hlt' : (l.length : Int) ≤ ((l.length : Nat) : Int) := by omega
      go_wp2_with fail
      refine (HSh.out A c wo ((HR0.out.below HB.out).more hz)).mono ?_
      rintro e w3 ⟨rfl, hb3⟩
      have HB3 : Hid (Below w.heap.size w w3) := Lib.hid (HB.out.trans (hb3.mono hz))
      have hz3 := HB3.out.size
      clear hb3 HB
      go_wp2_with fail
      refine (HFm.out w3 (HT.out.below HB3.out h2) (by omega)).mono ?_
      rintro e w4 ⟨⟨A2, c2, rfl, _, _, _, hRd, _⟩, hb4⟩
      have HB4 : Hid (Below w.heap.size w w4) := Lib.hid (HB3.out.trans (hb4.mono hz3))
      have hz4 := HB4.out.size
      have HR4 := Lib.hid hRd
      clear hb4 HB3 hRd HFm
      simp only
      have hll : ((l.length : Int) == (l.length : Int)) = true := by rw [beq_iff_eq]
      have hss : (sl == sl) = true := by rw [beq_iff_eq]
      go_wp2_with fail
      refine (HSh.out A2 c2 w4 HR4.out).mono ?_
      rintro e w5 ⟨rfl, hb5⟩
      have HB5 : Hid (Below w.heap.size w w5) := Lib.hid (HB4.out.trans (hb5.mono hz4))
      have hz5 := HB5.out.size
      have HR5 : Hid (Rd w5 w5.heap.size A2 (cells2 l)) := Lib.hid ((HR4.out.below hb5).more hb5.size)
      have HRl : Hid (Rd w5 w5.heap.size A (cells2 l)) := Lib.hid ((HR0.out.below HB5.out).more hz5)
      clear hb5 HR4 HSh HB4
      go_wp2
      go_loopw [90] (fun v wj => ∃ j : Nat, j ≤ l.length ∧ v = .int .i64 j ∧ Below w5.heap.size w5 wj) (fun v _ => l.length - (intOf v).toNat)
      case atStart => exact ⟨0, by omega, rfl, Below.refl _ _⟩
      case round =>
        obtain ⟨j, hj, rfl, hb6⟩ := hrel
        have HB6 := Lib.hid hb6
        have hz6 := hb6.size
        clear hb6
        by_cases hjl : j < l.length
        · obtain ⟨q, hq⟩ : ∃ q, l[j]? = some q := ⟨l[j], List.getElem?_eq_getElem hjl⟩
          obtain ⟨e0, e1⟩ := cells2_get l j q hq
          obtain ⟨ad, rfl, hadb, hcs⟩ := HRl.out.below HB6.out (by rw [cells2_length]; omega)
          obtain ⟨ad', rfl, hadb', hcs'⟩ := HR5.out.below HB6.out (by rw [cells2_length]; omega)
          have hc0 := hcs _ _ e0
          have hc1 : wr.cell? ⟨(ad.add (j * 2)).block, (ad.add (j * 2)).off + 1, none⟩ = some (.string (mk q.2)) := by have := hcs _ _ e1; rw [← add_add] at this; exact this
          have hx0 := hcs' _ _ e0
          have hx1 : wr.cell? ⟨(ad'.add (j * 2)).block, (ad'.add (j * 2)).off + 1, none⟩ = some (.string (mk q.2)) := by have := hcs' _ _ e1; rw [← add_add] at this; exact this
          have hbl : Below wr.heap.size wr (wr.alloc (.cells #[.string (mk q.1), .string (mk q.2)] 38)) := (Below.refl _ _).alloc (Nat.le_refl _) _
          have hy0 : (wr.alloc (.cells #[.string (mk q.1), .string (mk q.2)] 38)).cell? (ad'.add (j * 2)) = some (.string (mk q.1)) := (hbl.cell (by rw [block_add]; omega)).trans hx0
          have hy1 : (wr.alloc (.cells #[.string (mk q.1), .string (mk q.2)] 38)).cell? ⟨(ad'.add (j * 2)).block, (ad'.add (j * 2)).off + 1, none⟩ = some (.string (mk q.2)) := (hbl.cell (p := ⟨(ad'.add (j * 2)).block, (ad'.add (j * 2)).off + 1, none⟩) (by show (ad'.add (j * 2)).block < _; rw [block_add]; omega)).trans hx1
          have HK := Lib.hid (Blk.new wr 38 #[.string (mk q.1), .string (mk q.2)])
          have hk0 := HK.out.cell 0
          have hk1 := HK.out.cell 1
          have HBW : Hid (Below w5.heap.size w5 (wr.alloc (.cells #[.string (mk q.1), .string (mk q.2)] 38))) := Lib.hid (HB6.out.alloc hz6 _)
          clear hcs hcs' hbl e0 e1 hx0 hx1 hq
          have hn1 : (q.1 == q.1) = true := by rw [beq_iff_eq]
          have hn2 : (q.2 == q.2) = true := by rw [beq_iff_eq]
          go_wp2_with fail
          generalize (wr.alloc (.cells #[.string (mk q.1), .string (mk q.2)] 38)) = W at *
          have hk0' : W.cell? ⟨wr.heap.size, 0, none⟩ = some (.string (mk q.1)) := hk0
          have hk1' : W.cell? ⟨wr.heap.size, 1, none⟩ = some (.string (mk q.2)) := hk1
          clear hk0 hk1
          have hjl' : (j : Int) < (l.length : Int) := by omega
          go_quiet (fail)
          go_wp2
          go_roundw
          case rel => exact ⟨j + 1, by omega, by go_num, drew_n HBW.out _⟩
          case measure => simp [intOf]; omega
        · have hge : (l.length : Int) ≤ (j : Int) := by omega
          go_wp2
          go_ret
          exact ⟨rfl, HB5.out.trans (HB6.out.mono hz5)⟩
end Go.Proofs.YtchlikigjijdkaaDoor.Txt
