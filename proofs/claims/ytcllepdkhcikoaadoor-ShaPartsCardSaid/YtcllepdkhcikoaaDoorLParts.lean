/-
  The walk of the statement ShaParts: whatever the parts it returns true, and nothing that was there before has changed.
-/
import Derived.Test.YtcllepdkhcikoaaDoorReg4
namespace Go.Proofs.YtcllepdkhcikoaaDoor
open Go.RowKit
theorem flat1 (l : List Nat) : [l].flatten = l := by simp
def kindsP1 (F : List Nat) (i : Nat) : Kd := ([.hash F, .row (Sha.sum F), .str (Sha.sum F), .bytes F, .parts [F], .row (Sha.sum F), .str (Sha.sum F), .val (.bool false)] : List Kd).getD i (.val undef)
def kindsP2 (ps : List (List Nat)) (F : List Nat) (i : Nat) : Kd := ([.parts ps, .row (Sha.sum F), .str (Sha.sum F), .bytes F, .parts [F], .row (Sha.sum F), .str (Sha.sum F), .val (.bool true), .val (.bool true), .hash F, .row (Sha.sum F), .str (Sha.sum F), .bytes F, .parts [F], .row (Sha.sum F), .str (Sha.sum F), .val (.bool true), .val (.bool true), .val (.bool true)] : List Kd).getD i (.val undef)
set_option maxRecDepth 100000
set_option maxHeartbeats 1000000 in
theorem shaParts_any (w : World) (A : Option Addr) (c : Nat) (ps : List (List Nat)) (hP : Parts w w.heap.size A ps) (hNil : ∀ i, i < ps.length → ∀ ad Ai n ci, A = some ad → w.cell? (ad.add i) = some (.slice Ai n ci) → Ai = none → ci = 0) (hBs : ∀ p ∈ ps, Sha.Bs p) (hI : Iat w) (hK : Kat w) (h2 : 2 ≤ w.heap.size) (hm : ps.length ≤ 9223372036854775807) :
    Calls Tryd.prog 4 #[.slice A ps.length c] w fun e w' => e = .returned (.bool true) ∧ Below w.heap.size w w' := by
  have HP := Lib.hid hP
  have HNil := Lib.hid hNil
  have HBs := Lib.hid hBs
  have HI := Lib.hid hI
  have HK := Lib.hid hK
  clear hP hNil hBs hI hK
  go_enter Tryd.func4, Tryd.ntmps4
  go_wp2_with fail
  refine (anchor_any w HI.out HK.out h2).mono ?_
  rintro e w1 ⟨rfl, hb1⟩
  have HB1 := Lib.hid hb1
  have hz1 := hb1.size
  clear hb1
  by_cases hlen : 30 < ps.length
  · go_wp2
    go_ret
    exact ⟨rfl, HB1.out⟩
  have hd1 : decide ((30 : Int) < (ps.length : Int)) = false := by simp; omega
  go_wp2_with fail
  refine (new_any w1 (HI.out.below HB1.out (by omega))).mono ?_
  rintro e w2 ⟨rfl, hw2⟩
  have HH2 : Hid (Hst w2 w1.heap.size [] 0) := Lib.hid (by rw [← hw2]; exact new_hst w1)
  have HB2 : Hid (Below w.heap.size w w2) := Lib.hid (by rw [← hw2]; exact HB1.out.alloc hz1 _)
  clear hw2
  generalize hg : w1.heap.size = g at *
  clear hg HB1
  go_wp2
  go_loopw [4, 15] (fun v i wr => ∃ k : Nat, k ≤ ps.length ∧ i = .int .i64 k ∧ (ps.take k).flatten.length ≤ 300 * k ∧ wr.ownsRow (g + 1) 5 1 v (ps.take k).flatten.length (vals .u8 (ps.take k).flatten) ∧ Hst wr g (ps.take k).flatten (ps.take k).flatten.length ∧ Below w.heap.size w wr) (fun _ i _ => ps.length - (intOf i).toNat)
  case atStart => exact ⟨0, by omega, rfl, by simp, ⟨by simp [vals], .inl ⟨rfl, by simp⟩⟩, by simpa using HH2.out, HB2.out⟩
  case round =>
    obtain ⟨k, hk, rfl, hle, hown, hH, hbel⟩ := hrel
    clear HH2 HB2
    have hs1 := hH.lt
    have hzw := hbel.size
    have HO := Lib.hid hown
    have HH := Lib.hid hH
    have HB := Lib.hid hbel
    clear hown hH hbel
    by_cases hlt : k < ps.length
    · obtain ⟨ad, Ai, ci, rfl, hadb, hcell, hci, hrd⟩ := HP.out k hlt
      have hnil := HNil.out k hlt ad Ai _ ci rfl hcell
      have hc : wr.cell? (ad.add k) = some (.slice Ai (ps.getD k []).length ci) := (HB.out.cell (by rw [block_add]; exact hadb)).trans hcell
      have HR := Lib.hid hrd
      have HNl := Lib.hid hnil
      have HN : Hid ((ps.take (k + 1)).flatten = (ps.take k).flatten ++ ps.getD k []) := Lib.hid (take_flat ps k hlt)
      have HBp : Hid (Sha.Bs (ps.getD k [])) := Lib.hid (HBs.out _ (by rw [List.getD_eq_getElem?_getD, List.getElem?_eq_getElem hlt]; simp))
      have HBF : Hid (Sha.Bs (ps.take (k + 1)).flatten) := Lib.hid (fun x hx => by
        rw [List.mem_flatten] at hx
        obtain ⟨l, hl, hx⟩ := hx
        exact HBs.out l (List.mem_of_mem_take hl) x hx)
      clear hcell hrd hnil
      generalize ps.getD k [] = pk at *
      by_cases hpl : 300 < pk.length
      · go_wp2
        go_ret
        exact ⟨rfl, HB.out⟩
      · have hd2 : decide ((300 : Int) < (pk.length : Int)) = false := by simp; omega
        go_wp2_with fail
        refine (write_any wr g (ps.take k).flatten pk Ai ci HBp.out HH.out (HR.out.rd HB.out hz1 hzw) hci (HK.out.below HB.out h2) (by omega) (by omega)).mono ?_
        rintro e w3 ⟨rfl, hH3, hg3⟩
        have HH3 := Lib.hid hH3
        have HO3 := Lib.hid (own_grown HO.out hg3 (by omega))
        have HB3 : Hid (Below w.heap.size w w3) := Lib.hid (HB.out.grown hg3 HB.out.size (fun j hj => by injection hj with hj; omega))
        have hz3 : g < w3.heap.size := hH3.lt
        clear hH3 hg3
        go_upto_region 14 with (at_builtin; refine wpList_append_bytes rfl _ _ rfl (g + 1) _ (ps.take k).flatten rfl HO3.out Ai ci pk rfl HNl.out ((HR.out.below HB3.out).more (by omega)) (by omega) (by omega) ?_; intro v4 w4 hown4 hgrow4 _)
        have hrow := own_row HO3.out
        rw [← HN.out] at hown4
        have hle' : (ps.take (k + 1)).flatten.length ≤ 300 * (k + 1) := by rw [HN.out, List.length_append]; omega
        have HH4 : Hid (Hst w4 g (ps.take (k + 1)).flatten (ps.take (k + 1)).flatten.length) := Lib.hid (by
          rw [HN.out, List.length_append]
          exact HH3.out.keepRow hgrow4 (fun e => by have := hrow g e; omega))
        have HB4 : Hid (Below w.heap.size w w4) := Lib.hid (HB3.out.grown hgrow4 HB3.out.size (fun j hj => by have := hrow j hj; omega))
        have hz4 : w3.heap.size ≤ w4.heap.size := hgrow4.size
        generalize hF : (ps.take (k + 1)).flatten = F at *
        have HF := Lib.hid hF
        clear hF
        clear hrow hgrow4 HH3 HO3 HB3 HO HH HB HN HR HNl
        obtain ⟨X, cx, hv4, hcx, hcm, hXn, hXr, hXp⟩ := own_form hown4
        rw [hv4] at hown4 ⊢
        have HO4 := Lib.hid hown4
        have HXr := Lib.hid hXr
        clear hown4 hv4 hXr hXp hXn
        have hC : Cx w4.drew := ⟨HI.out.below HB4.out.drew (by omega), HK.out.below HB4.out.drew h2, by show 2 ≤ w4.heap.size; omega⟩
        have HC := Lib.hid hC
        clear hC
        refine region_inv (Rw w4.drew) (fun i => (kindsP1 F i).is) (by kernel_rfl) (by kernel_rfl) (Below.refl _ _) ⟨?_, ?_, ?_, ?_, ?_, ?_, ?_, ?_, trivial⟩ ?_
        · exact ob_old ⟨by kernel_rfl, (at0 _ _), ⟨_, rfl, by exact (by decide : 28 < 55)⟩, (.inl rfl)⟩ 3 rfl (by kernel_rfl) (fun w' hr => ⟨g, rfl, by omega, HH4.out.below (Below.trans ((Below.refl w4.heap.size w4).drew) hr) (by omega)⟩)
        · exact ob_hsum ⟨by kernel_rfl, (atS (at0 _ _)), ⟨_, rfl, by exact (by decide : 29 < 55)⟩, (.inl rfl)⟩ 0 28 _ F rfl (by kernel_rfl) rfl rfl rfl HC.out (by omega)
        · exact ob_conv ⟨by kernel_rfl, (atS (atS (at0 _ _))), ⟨_, rfl, by exact (by decide : 30 < 55)⟩, (.inl rfl)⟩ 1 29 (Sha.sum F) rfl (by kernel_rfl) rfl rfl rfl (by rw [Sha.sum_length]; decide)
        · exact ob_old ⟨by kernel_rfl, (atS (atS (atS (at0 _ _)))), ⟨_, rfl, by exact (by decide : 31 < 55)⟩, (.inl rfl)⟩ 4 rfl (by kernel_rfl) (fun w' hr => ⟨HBF.out, X, cx, rfl, hcx, (HXr.out.below (Below.trans ((Below.refl w4.heap.size w4).drew) hr)).more hr.size⟩)
        · exact ob_build1 ⟨by kernel_rfl, (atS (atS (atS (atS (at0 _ _))))), ⟨_, rfl, by exact (by decide : 32 < 55)⟩, (.inl rfl)⟩ 3 31 F rfl (by kernel_rfl) rfl rfl rfl
        · exact ob_sum ⟨by kernel_rfl, (atS (atS (atS (atS (atS (at0 _ _)))))), ⟨_, rfl, by exact (by decide : 33 < 55)⟩, (.inl rfl)⟩ (.tmp 32) _ [F] rfl (fun _ _ _ h hd => h.opd (j := 4) hd (by kernel_rfl) rfl) (by rw [flat1]; rfl) HC.out (by simp) (by rw [flat1]; omega)
        · exact ob_conv ⟨by kernel_rfl, (atS (atS (atS (atS (atS (atS (at0 _ _))))))), ⟨_, rfl, by exact (by decide : 34 < 55)⟩, (.inl rfl)⟩ 5 33 (Sha.sum F) rfl (by kernel_rfl) rfl rfl rfl (by rw [Sha.sum_length]; decide)
        · exact ob_neq ⟨by kernel_rfl, (atS (atS (atS (atS (atS (atS (atS (at0 _ _)))))))), ⟨_, rfl, by exact (by decide : 35 < 55)⟩, (.inl rfl)⟩ 2 6 30 34 (Sha.sum F) rfl (by kernel_rfl) rfl (by kernel_rfl) rfl rfl rfl rfl
        · intro a' w' hG hdf hsz hold hr
          have hv : a'.tmps.getD 35 undef = .bool false := hG 7 35 (by exact (by decide : 7 < 8)) rfl
          have he := act_eq [28, 29, 30, 31, 32, 33, 34, 35] (by kernel_rfl) hdf hsz hold
          have hb5 : Below w4.heap.size w4 w' := Below.trans ((Below.refl w4.heap.size w4).drew) hr
          simp only [List.foldl_cons, List.foldl_nil] at he
          rw [hv] at he
          generalize a'.tmps.getD 28 undef = q28 at he; generalize a'.tmps.getD 29 undef = q29 at he; generalize a'.tmps.getD 30 undef = q30 at he; generalize a'.tmps.getD 31 undef = q31 at he; generalize a'.tmps.getD 32 undef = q32 at he; generalize a'.tmps.getD 33 undef = q33 at he; generalize a'.tmps.getD 34 undef = q34 at he
          clear hG hdf hsz hold hr hv
          subst he
          have HO5 := Lib.hid (own_below HO4.out hb5)
          have HH5 : Hid (Hst w' g F F.length) := Lib.hid (HH4.out.below hb5 (by omega))
          have HB5 : Hid (Below w.heap.size w w') := Lib.hid (HB4.out.trans (hb5.mono (by omega)))
          clear hb5
          simp only [Act.put, List.setIfInBounds_toArray, List.set_cons_succ, List.set_cons_zero]
          go_wp2
          go_roundw
          case rel => exact ⟨k + 1, by omega, by go_num, by rw [HF.out]; exact hle', by rw [HF.out]; exact HO5.out, by rw [HF.out]; exact HH5.out, HB5.out⟩
          case measure => simp [intOf]; omega
    · obtain rfl : k = ps.length := by omega
      rw [List.take_length] at HO HH hle
      have hfl : ps.flatten.length ≤ 9000 := by omega
      have HBF : Hid (Sha.Bs ps.flatten) := Lib.hid (fun x hx => by
        rw [List.mem_flatten] at hx
        obtain ⟨l, hl, hx⟩ := hx
        exact HBs.out l hl x hx)
      obtain ⟨X, cx, hv4, hcx, hcm, hXn, hXr, hXp⟩ := own_form HO.out
      rw [hv4]
      have HXr := Lib.hid hXr
      clear HO hv4 hXr hXp hXn
      go_upto_region 17 with (fail)
      have hC : Cx wr.drew := ⟨HI.out.below HB.out.drew (by omega), HK.out.below HB.out.drew h2, by show 2 ≤ wr.heap.size; omega⟩
      have HC := Lib.hid hC
      clear hC
      refine region_inv (Rw wr.drew) (fun i => (kindsP2 ps ps.flatten i).is) (by kernel_rfl) (by kernel_rfl) (Below.refl _ _) ⟨?_, ?_, ?_, ?_, ?_, ?_, ?_, ?_, ?_, ?_, ?_, ?_, ?_, ?_, ?_, ?_, ?_, ?_, ?_, trivial⟩ ?_
      · exact ob_old ⟨by kernel_rfl, (at0 _ _), ⟨_, rfl, by exact (by decide : 37 < 55)⟩, (.inl rfl)⟩ 0 rfl (by kernel_rfl) (fun w' hr => ⟨HBs.out, A, c, rfl, (HP.out.below HB.out hzw).below (Below.trans ((Below.refl wr.heap.size wr).drew) hr) hr.size⟩)
      · exact ob_sum ⟨by kernel_rfl, (atS (at0 _ _)), ⟨_, rfl, by exact (by decide : 38 < 55)⟩, (.inl rfl)⟩ (.tmp 37) _ ps rfl (fun _ _ _ h hd => h.opd (j := 0) hd (by kernel_rfl) rfl) rfl HC.out (by omega) (by omega)
      · exact ob_conv ⟨by kernel_rfl, (atS (atS (at0 _ _))), ⟨_, rfl, by exact (by decide : 39 < 55)⟩, (.inl rfl)⟩ 1 38 (Sha.sum ps.flatten) rfl (by kernel_rfl) rfl rfl rfl (by rw [Sha.sum_length]; decide)
      · exact ob_old ⟨by kernel_rfl, (atS (atS (atS (at0 _ _)))), ⟨_, rfl, by exact (by decide : 40 < 55)⟩, (.inl rfl)⟩ 4 rfl (by kernel_rfl) (fun w' hr => ⟨HBF.out, X, cx, rfl, hcx, (HXr.out.below (Below.trans ((Below.refl wr.heap.size wr).drew) hr)).more hr.size⟩)
      · exact ob_build1 ⟨by kernel_rfl, (atS (atS (atS (atS (at0 _ _))))), ⟨_, rfl, by exact (by decide : 41 < 55)⟩, (.inl rfl)⟩ 3 40 ps.flatten rfl (by kernel_rfl) rfl rfl rfl
      · exact ob_sum ⟨by kernel_rfl, (atS (atS (atS (atS (atS (at0 _ _)))))), ⟨_, rfl, by exact (by decide : 42 < 55)⟩, (.inl rfl)⟩ (.tmp 41) _ [ps.flatten] rfl (fun _ _ _ h hd => h.opd (j := 4) hd (by kernel_rfl) rfl) (by rw [flat1]; rfl) HC.out (by simp) (by rw [flat1]; omega)
      · exact ob_conv ⟨by kernel_rfl, (atS (atS (atS (atS (atS (atS (at0 _ _))))))), ⟨_, rfl, by exact (by decide : 43 < 55)⟩, (.inl rfl)⟩ 5 42 (Sha.sum ps.flatten) rfl (by kernel_rfl) rfl rfl rfl (by rw [Sha.sum_length]; decide)
      · exact ob_eql ⟨by kernel_rfl, (atS (atS (atS (atS (atS (atS (atS (at0 _ _)))))))), ⟨_, rfl, by exact (by decide : 44 < 55)⟩, (.inl rfl)⟩ 2 6 39 43 (Sha.sum ps.flatten) rfl (by kernel_rfl) rfl (by kernel_rfl) rfl rfl rfl rfl
      · exact ob_move ⟨by kernel_rfl, (atS (atS (atS (atS (atS (atS (atS (atS (at0 _ _))))))))), ⟨_, rfl, by exact (by decide : 45 < 55)⟩, (.inl rfl)⟩ 7 44 rfl (by kernel_rfl) rfl rfl
      · exact ob_old ⟨by kernel_rfl, (atS (atS (atS (atS (atS (atS (atS (atS (atS (at0 _ _)))))))))), ⟨_, rfl, by exact (by decide : 46 < 55)⟩, (.inr ⟨8, 45, rfl, rfl, by kernel_rfl, rfl, by exact (by decide : 45 < 55)⟩)⟩ 3 rfl (by kernel_rfl) (fun w' hr => ⟨g, rfl, by omega, HH.out.below (Below.trans ((Below.refl wr.heap.size wr).drew) hr) (by omega)⟩)
      · exact ob_hsum ⟨by kernel_rfl, (atS (atS (atS (atS (atS (atS (atS (atS (atS (atS (at0 _ _))))))))))), ⟨_, rfl, by exact (by decide : 47 < 55)⟩, (.inr ⟨8, 45, rfl, rfl, by kernel_rfl, rfl, by exact (by decide : 45 < 55)⟩)⟩ 9 46 _ ps.flatten rfl (by kernel_rfl) rfl rfl rfl HC.out (by omega)
      · exact ob_conv ⟨by kernel_rfl, (atS (atS (atS (atS (atS (atS (atS (atS (atS (atS (atS (at0 _ _)))))))))))), ⟨_, rfl, by exact (by decide : 48 < 55)⟩, (.inr ⟨8, 45, rfl, rfl, by kernel_rfl, rfl, by exact (by decide : 45 < 55)⟩)⟩ 10 47 (Sha.sum ps.flatten) rfl (by kernel_rfl) rfl rfl rfl (by rw [Sha.sum_length]; decide)
      · exact ob_old ⟨by kernel_rfl, (atS (atS (atS (atS (atS (atS (atS (atS (atS (atS (atS (atS (at0 _ _))))))))))))), ⟨_, rfl, by exact (by decide : 49 < 55)⟩, (.inr ⟨8, 45, rfl, rfl, by kernel_rfl, rfl, by exact (by decide : 45 < 55)⟩)⟩ 4 rfl (by kernel_rfl) (fun w' hr => ⟨HBF.out, X, cx, rfl, hcx, (HXr.out.below (Below.trans ((Below.refl wr.heap.size wr).drew) hr)).more hr.size⟩)
      · exact ob_build1 ⟨by kernel_rfl, (atS (atS (atS (atS (atS (atS (atS (atS (atS (atS (atS (atS (atS (at0 _ _)))))))))))))), ⟨_, rfl, by exact (by decide : 50 < 55)⟩, (.inr ⟨8, 45, rfl, rfl, by kernel_rfl, rfl, by exact (by decide : 45 < 55)⟩)⟩ 12 49 ps.flatten rfl (by kernel_rfl) rfl rfl rfl
      · exact ob_sum ⟨by kernel_rfl, (atS (atS (atS (atS (atS (atS (atS (atS (atS (atS (atS (atS (atS (atS (at0 _ _))))))))))))))), ⟨_, rfl, by exact (by decide : 51 < 55)⟩, (.inr ⟨8, 45, rfl, rfl, by kernel_rfl, rfl, by exact (by decide : 45 < 55)⟩)⟩ (.tmp 50) _ [ps.flatten] rfl (fun _ _ _ h hd => h.opd (j := 13) hd (by kernel_rfl) rfl) (by rw [flat1]; rfl) HC.out (by simp) (by rw [flat1]; omega)
      · exact ob_conv ⟨by kernel_rfl, (atS (atS (atS (atS (atS (atS (atS (atS (atS (atS (atS (atS (atS (atS (atS (at0 _ _)))))))))))))))), ⟨_, rfl, by exact (by decide : 52 < 55)⟩, (.inr ⟨8, 45, rfl, rfl, by kernel_rfl, rfl, by exact (by decide : 45 < 55)⟩)⟩ 14 51 (Sha.sum ps.flatten) rfl (by kernel_rfl) rfl rfl rfl (by rw [Sha.sum_length]; decide)
      · exact ob_eql ⟨by kernel_rfl, (atS (atS (atS (atS (atS (atS (atS (atS (atS (atS (atS (atS (atS (atS (atS (atS (at0 _ _))))))))))))))))), ⟨_, rfl, by exact (by decide : 53 < 55)⟩, (.inr ⟨8, 45, rfl, rfl, by kernel_rfl, rfl, by exact (by decide : 45 < 55)⟩)⟩ 11 15 48 52 (Sha.sum ps.flatten) rfl (by kernel_rfl) rfl (by kernel_rfl) rfl rfl rfl rfl
      · exact ob_pick ⟨by kernel_rfl, (atS (atS (atS (atS (atS (atS (atS (atS (atS (atS (atS (atS (atS (atS (atS (atS (atS (at0 _ _)))))))))))))))))), ⟨_, rfl, by exact (by decide : 54 < 55)⟩, (.inl rfl)⟩ 8 16 45 53 rfl (by kernel_rfl) rfl (by kernel_rfl) rfl rfl rfl rfl
      · exact ob_assign ⟨by kernel_rfl, (atS (atS (atS (atS (atS (atS (atS (atS (atS (atS (atS (atS (atS (atS (atS (atS (atS (atS (at0 _ _))))))))))))))))))), ⟨_, rfl, by exact (by decide : 2 < 55)⟩, (.inl rfl)⟩ 17 54 rfl (by kernel_rfl) rfl rfl
      · intro a' w' hG hdf hsz hold hr
        have hv : a'.tmps.getD 2 undef = .bool true := hG 18 2 (by exact (by decide : 18 < 19)) rfl
        have HF := Lib.hid (HB.out.drew.trans (hr.mono (show w.heap.size ≤ wr.heap.size from hzw)))
        clear hr hG hold hsz
        go_wp2
        refine bodyPost_ret (results_tmp rfl _ _ _) hdf ⟨?_, HF.out⟩
        rw [hv]
end Go.Proofs.YtcllepdkhcikoaaDoor
