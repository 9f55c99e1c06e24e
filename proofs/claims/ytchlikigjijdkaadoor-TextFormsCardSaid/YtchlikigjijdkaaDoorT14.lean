/-
  What the document's Form answers; nothing that was there before is changed.
-/
import Derived.Test.YtchlikigjijdkaaDoorT12
import Derived.Test.YtchlikigjijdkaaDoorT13
namespace Go.Proofs.YtchlikigjijdkaaDoor.Txt
open Go.RowKit
set_option maxRecDepth 100000
theorem info39 : (Tryd.prog.info? 39).map (fun i => (i.zero, i.size, i.bytes)) = some (some (.agg #[.string ⟨#[]⟩, .string ⟨#[]⟩]), 2, 32) := by kernel_rfl
abbrev OwnQ (w : World) (base : Nat) (v : Value) (l : List Pr) : Prop := w.ownsRow base 39 2 v l.length (cells2 l)
set_option maxHeartbeats 8000000 in
theorem rform_any (l : List UInt8) (w : World) (hl : l.length ≤ 100000) :
    Calls Tryd.prog 18 #[.string (mk l)] w fun e w' => Pairs w.heap.size (form l) w' e ∧ Below w.heap.size w w' := by
  have hms := mk_size
  have hmt := mk_toList
  go_enter Tryd.func18, Tryd.ntmps18
  by_cases h0 : l = []
  · subst h0
    have he : ((([] : List UInt8)).isEmpty) = true := rfl
    go_wp2
    go_ret2
    exact ⟨pairs_nil _ 0 _, Below.refl _ _⟩
  have he : (l == ([] : List UInt8)) = false := by rw [beq_eq_false_iff_ne]; exact h0
  have he2 : l.isEmpty = false := by rw [List.isEmpty_eq_false_iff]; exact h0
  have HF0 : Hid (form l = formF [] (split 38 l)) := Lib.hid (by unfold form; rw [if_neg h0])
  have HLen := Lib.hid (split_lens 38 l)
  clear h0
  go_wp2_with fail
  refine (parts_any l 38 _ rfl _ hl).mono ?_
  rintro e w1 ⟨⟨A0, k0, rfl, hRd⟩, hb1⟩
  have HS := Lib.hid hRd
  have HB1 := Lib.hid hb1
  have hsz1 := hb1.size
  clear hRd hb1
  generalize split 38 l = sp at *
  go_wp2
  go_loopw [4, 6] (fun v i wr => ∃ (acc : List Pr) (n : Nat), i = .int .i64 n ∧ n ≤ sp.length ∧ acc.length = n ∧ n ≤ 32 ∧ form l = formF acc (sp.drop n) ∧ OwnQ wr w1.heap.size v acc ∧ Below w1.heap.size w1 wr) (fun _ i _ => sp.length - (intOf i).toNat)
  case atStart => exact ⟨[], 0, rfl, by omega, rfl, by omega, by rw [HF0.out]; rfl, ⟨rfl, .inl ⟨rfl, rfl⟩⟩, Below.refl _ _⟩
  case round =>
    obtain ⟨acc, n, rfl, hn, hacc, h32, hF, hrow, hb⟩ := hrel
    obtain ⟨wo, hwo⟩ : ∃ wo, wo = wr := ⟨_, rfl⟩
    subst hwo
    have HO := Lib.hid hrow
    have HB := Lib.hid hb
    have hsz := hb.size
    have HBw : Hid (Below w.heap.size w wo) := Lib.hid (HB1.out.trans (hb.mono hsz1))
    obtain ⟨A, c, rfl, hc1, hc2, hAc, hRd, hAb⟩ := row_form (cells2_length acc) hrow
    have HR := Lib.hid hRd
    have HA := Lib.hid hAb
    have HAc := Lib.hid hAc
    have HF := Lib.hid hF
    have Hacc := Lib.hid hacc
    have ha1 : acc.length ≤ n := by omega
    have ha2 : n ≤ acc.length := by omega
    clear hrow hb hRd hAb hAc hF hacc HF0
    by_cases hlt : n < sp.length
    · obtain ⟨p, hp⟩ : ∃ p, sp[n]? = some p := ⟨sp[n], List.getElem?_eq_getElem hlt⟩
      have hdr : sp.drop n = p :: sp.drop (n + 1) := by
        rw [List.drop_eq_getElem_cons hlt]
        congr 1
        exact Option.some.inj ((List.getElem?_eq_getElem hlt).symm.trans hp)
      rw [hdr] at HF
      by_cases hn32 : n = 32
      · have HE : Hid (form l = ([], 14)) := Lib.hid (by rw [HF.out, formF_step, if_pos (Hacc.out.trans hn32)])
        have hq : ((n : Int) == 32) = true := by rw [beq_iff_eq]; omega
        have hn' := Lib.hid hn32
        clear hn32 hdr hp
        go_wp2
        go_ret2
        exact ⟨by rw [HE.out]; exact pairs_nil _ 14 _, HBw.out⟩
      · have hq : ((n : Int) == 32) = false := by rw [beq_eq_false_iff_ne]; omega
        have hpl := HLen.out p (List.mem_of_getElem? hp)
        obtain ⟨ad, rfl, hadb, hcs⟩ := HS.out.below HB.out (by rw [strs_length]; omega)
        have hc0 := hcs n _ (strs_get sp n p hp)
        have HF1 : Hid (form l = if (one p).2 ≠ 0 then ([], (one p).2) else if has acc (one p).1.1 = true then ([], 15) else formF (acc ++ [(one p).1]) (sp.drop (n + 1))) := Lib.hid (by rw [HF.out, formF_step, if_neg (by rw [Hacc.out]; exact hn32)])
        clear HF hdr hcs hp
        go_wp2_with fail
        refine (one_any p _ (by omega)).mono ?_
        rintro e w2 ⟨rfl, hb2⟩
        have HB2 := Lib.hid hb2
        have hsz2 := hb2.size
        clear hb2 hc0
        unfold pairE
        generalize one p = r at *
        obtain ⟨⟨x, y⟩, ec⟩ := r
        simp only at HF1
        simp only
        by_cases hec : ec = 0
        · rw [if_neg (fun h => h hec)] at HF1
          have hq2 : ((ec : Int) != 0) = false := by rw [bne_eq_false_iff_eq]; omega
          have hec' := Lib.hid hec
          clear hec
          go_wp2
          have HR3 : Hid (Rd w2 wo.heap.size A (cells2 acc)) := Lib.hid (HR.out.below HB2.out)
          have HK3 := Lib.hid (Blk.new w2 39 #[.string (mk x), .string (mk y)])
          have HB3 : Hid (Below wo.heap.size wo (w2.alloc (.cells #[.string (mk x), .string (mk y)] 39))) := Lib.hid (HB2.out.alloc hsz2 _)
          have HR4 : Hid (Rd (w2.alloc (.cells #[.string (mk x), .string (mk y)] 39)) wo.heap.size A (cells2 acc)) := Lib.hid (HR3.out.below ((Below.refl _ _).alloc hsz2 _))
          have hS : (w2.alloc (.cells #[.string (mk x), .string (mk y)] 39)).heap.size = w2.heap.size + 1 := by simp
          generalize (w2.alloc (.cells #[.string (mk x), .string (mk y)] 39)) = w3 at *
          have hS1 : w3.heap.size ≤ w2.heap.size + 1 := by omega
          have hS2 : w2.heap.size + 1 ≤ w3.heap.size := by omega
          clear hS HR3 HB2
          go_loopw [9] (fun v wj => ∃ k : Nat, k ≤ acc.length ∧ v = .int .i64 k ∧ (∀ (j : Nat) (q : Pr), j < k → acc[j]? = some q → q.1 ≠ x) ∧ Below w3.heap.size w3 wj) (fun v _ => acc.length - (intOf v).toNat)
          case atStart => exact ⟨0, by omega, rfl, fun j q h => by omega, Below.refl _ _⟩
          case round =>
            obtain ⟨k, hk, rfl, hno, hb4⟩ := hrel
            have HN := Lib.hid hno
            have HB4 := Lib.hid hb4
            have hsz4 := hb4.size
            have c0 : wr.cell? ⟨w2.heap.size, 0, none⟩ = some (.string (mk x)) := (HK3.out.below hb4 (by omega)).cell 0
            have c1 : wr.cell? ⟨w2.heap.size, 1, none⟩ = some (.string (mk y)) := (HK3.out.below hb4 (by omega)).cell 1
            have HB5 : Hid (Below w.heap.size w wr) := Lib.hid ((HBw.out.trans (HB3.out.mono (by omega))).trans (hb4.mono (by omega)))
            clear hno hb4
            by_cases hkl : k < acc.length
            · obtain ⟨adp, rfl, hadpb, hcsp⟩ := HR4.out.below (HB4.out.mono (show wo.heap.size ≤ w3.heap.size by omega)) (by rw [cells2_length]; omega)
              obtain ⟨q, hqk⟩ : ∃ q, acc[k]? = some q := ⟨acc[k], List.getElem?_eq_getElem hkl⟩
              obtain ⟨e0, _⟩ := cells2_get acc k q hqk
              have d0 := hcsp _ _ e0
              have HQ := Lib.hid hqk
              have hkl' : (k : Int) < (acc.length : Int) := by omega
              clear hcsp e0 hqk
              by_cases hx : q.1 = x
              · have hx' : (q.1 == x) = true := by rw [beq_iff_eq]; exact hx
                have HE : Hid (form l = ([], 15)) := Lib.hid (by rw [HF1.out, if_pos (has_found HQ.out hx)])
                clear hx
                go_wp2
                go_quiet (fail)
                go_wp2
                go_ret2
                exact ⟨by rw [HE.out]; exact pairs_nil _ 15 _, drew_n HB5.out _⟩
              · have hx' : (q.1 == x) = false := by rw [beq_eq_false_iff_ne]; exact hx
                have HN2 : Hid (∀ (j : Nat) (p : Pr), j < k + 1 → acc[j]? = some p → p.1 ≠ x) := Lib.hid (fun j p hj hp => by
                  by_cases hjk : j = k
                  · subst hjk
                    rw [HQ.out] at hp
                    injection hp with hp
                    rw [← hp]
                    exact hx
                  · exact HN.out j p (by omega) hp)
                clear hx
                go_wp2
                go_quiet (fail)
                go_wp2
                go_roundw
                case rel => exact ⟨k + 1, by omega, by go_num, HN2.out, drew_n HB4.out _⟩
                case measure => simp [intOf]; omega
            · have hno : ∀ q ∈ acc, q.1 ≠ x := fun q hq => by
                obtain ⟨j, hj, rfl⟩ := List.getElem_of_mem hq
                exact HN.out j _ (by omega) (List.getElem?_eq_getElem hj)
              have HE : Hid (form l = formF (acc ++ [(x, y)]) (sp.drop (n + 1))) := Lib.hid (by rw [HF1.out, if_neg (has_not hno)])
              have hkge : (acc.length : Int) ≤ (k : Int) := by omega
              have HO4 : Hid (OwnQ wr w1.heap.size (.slice A acc.length c) acc) := Lib.hid (row_below HO.out (HB3.out.trans (HB4.out.mono (by omega))))
              have HB6 : Hid (Below w1.heap.size w1 wr) := Lib.hid (HB.out.trans ((HB3.out.trans (HB4.out.mono (by omega))).mono hsz))
              have hb6 := HB6.out.size
              clear hno HF1 HN HB5 HB4
              go_wp2_with (at_builtin; refine wpList_append_elem rfl _ _ 34 39 rfl w1.heap.size 2 32 _ Tryd.underlying34 info39 rfl (by decide) (by decide) _ acc.length (cells2 acc) [.string (mk x), .string (mk y)] rfl HO4.out rfl (by intro u hu; simp at hu; rcases hu with rfl | rfl <;> rfl) rfl (by omega) hb6 _ rfl ?_; intro v6 w6 hown6 hbel6 _)
              have HO6 : Hid (OwnQ w6 w1.heap.size v6 (acc ++ [(x, y)])) := Lib.hid (by
                show w6.ownsRow _ _ _ _ _ _
                rw [cells2_append, List.length_append]
                exact hown6)
              have HB7 : Hid (Below w1.heap.size w1 w6) := Lib.hid (HB6.out.trans hbel6)
              clear hown6 hbel6 HO4 HB6 c0 c1
              go_wp2
              go_roundw
              case rel => exact ⟨acc ++ [(x, y)], n + 1, by go_num, by omega, by rw [List.length_append, Hacc.out]; rfl, by omega, HE.out, HO6.out, HB7.out⟩
              case measure => simp [intOf]; omega
        · have HE : Hid (form l = ([], ec)) := Lib.hid (by rw [HF1.out, if_pos hec])
          have hq2 : ((ec : Int) != 0) = true := by rw [bne_iff_ne]; omega
          clear HF1
          go_wp2
          go_ret2
          refine ⟨by rw [HE.out]; exact pairs_nil _ ec _, ?_⟩
          exact (HBw.out.trans (HB2.out.mono (by omega))).alloc (by omega) _
    · have HE : Hid (form l = (acc, 0)) := Lib.hid (by rw [HF.out, List.drop_of_length_le (by omega)]; rfl)
      have hge : (sp.length : Int) ≤ (n : Int) := by omega
      go_wp2
      go_ret2
      refine ⟨?_, HBw.out⟩
      rw [HE.out]
      exact ⟨A, c, rfl, HAc.out, hc1, hc2, HR.out, fun ad h => by obtain ⟨q, rfl, h1, _⟩ := HA.out ad h; exact Nat.le_trans hsz1 h1⟩
end Go.Proofs.YtchlikigjijdkaaDoor.Txt
