/-
  The walk of the statement ShaBytes: whatever the bytes and the cut it returns true, and nothing that was there before has changed.
-/
import Derived.Test.YtcllepdkhcikoaaDoorReg3
namespace Go.Proofs.YtcllepdkhcikoaaDoor
open Go.RowKit
theorem slice_lh (A : Option Addr) (n c l h : Nat) (h1 : l ≤ h) (h2 : h ≤ c) (w : World) :
    (Instr.sliceAt 22 (.slice A n c) (some (.int .i64 (l : Int))) (some (.int .i64 (h : Int))) none).run Tryd.prog w = .ok (.slice (if c = l then A else A.map (·.add l)) (h - l) (c - l)) w := by
  have hs : (sizeOf (Tryd.prog.elem 22)).run Tryd.prog w = .ok 1 w := by kernel_rfl
  have hu : Tryd.prog.underlying 22 = some (.slice (Tryd.prog.elem 22)) := by kernel_rfl
  rw [run_sliceAt_slice _ 22 _ _ _ _ hu, run_slice_lh (P := Tryd.prog) w 22 A n c hu .i64 .i64 (l : Int) (h : Int) (by omega) (by omega) (by omega), hs]
  simp only [Result.andThen, sliced, Int.toNat_natCast, Nat.mul_one]
theorem slice_to (A : Option Addr) (n c h : Nat) (h2 : h ≤ c) (w : World) :
    (Instr.sliceAt 22 (.slice A n c) none (some (.int .i64 (h : Int))) none).run Tryd.prog w = .ok (.slice A h c) w := by
  have hs : (sizeOf (Tryd.prog.elem 22)).run Tryd.prog w = .ok 1 w := by kernel_rfl
  have hu : Tryd.prog.underlying 22 = some (.slice (Tryd.prog.elem 22)) := by kernel_rfl
  rw [run_sliceAt_slice _ 22 _ _ _ _ hu, run_slice_h (P := Tryd.prog) w 22 A n c hu .i64 (h : Int) (by omega) (by omega), hs]
  simp only [Result.andThen, sliced, Int.toNat_natCast, Nat.mul_one, Nat.sub_zero]
  cases A <;> simp [Addr.add]
/-- A part of the bytes, at a cut address. -/
theorem RdB.cut {w : World} {B : Nat} {A : Option Addr} {l : List Nat} (h : RdB w B A l) {k cap m : Nat} (hc : l.length ≤ cap) : RdB w B (if cap = k then A else A.map (·.add k)) ((l.drop k).take m) := fun hl => by
  simp only [List.length_take, List.length_drop] at hl
  obtain ⟨ad, e, h1, h3⟩ := h (by omega)
  subst e
  rw [if_neg (by omega)]
  refine ⟨ad.add k, rfl, by rw [block_add]; exact h1, fun j u hu => ?_⟩
  rw [add_add]
  refine h3 _ u ?_
  rw [← vals_take, List.getElem?_take] at hu
  split at hu
  · rw [← hu, ← vals_drop, List.getElem?_drop]
  · cases hu
theorem RdB.head {w : World} {B : Nat} {A : Option Addr} {l : List Nat} (h : RdB w B A l) (m : Nat) : RdB w B A (l.take m) := fun hl => by
  simp only [List.length_take] at hl
  obtain ⟨ad, e, h1, h3⟩ := h (by omega)
  refine ⟨ad, e, h1, fun j u hu => h3 j u ?_⟩
  rw [← vals_take, List.getElem?_take] at hu
  split at hu
  · exact hu
  · cases hu
theorem one_drop (l : List Nat) (k : Nat) (hk : k < l.length) : ((l.drop k).take 1).length = 1 ∧ l.take (k + 1) = l.take k ++ (l.drop k).take 1 := by
  refine ⟨by simp; omega, ?_⟩
  rw [List.take_add]
theorem flat1 (l : List Nat) : [l].flatten = l := by simp
def kindsB (bs : List Nat) (i : Nat) : Kd := ([.hash bs, .row (Sha.sum bs), .str (Sha.sum bs), .bytes bs, .parts [bs], .row (Sha.sum bs), .str (Sha.sum bs), .val (.bool true), .val (.bool true), .hash bs, .row (Sha.sum bs), .str (Sha.sum bs), .bytes bs, .parts [bs], .row (Sha.sum bs), .str (Sha.sum bs), .val (.bool true), .val (.bool true), .val (.bool true)] : List Kd).getD i (.val undef)
set_option maxRecDepth 100000
set_option maxHeartbeats 1000000 in
theorem shaBytes_any (w : World) (A : Option Addr) (c : Nat) (bs : List Nat) (at' : Int) (hat : at' ≤ 9223372036854775807) (hR : RdB w w.heap.size A bs) (hc : bs.length ≤ c) (hb : Sha.Bs bs) (hI : Iat w) (hK : Kat w) (h2 : 2 ≤ w.heap.size) (hm : bs.length ≤ 9223372036854775807) :
    Calls Tryd.prog 7 #[.slice A bs.length c, .int .i64 at'] w fun e w' => e = .returned (.bool true) ∧ Below w.heap.size w w' := by
  have HR := Lib.hid hR
  have HBs := Lib.hid hb
  have HI := Lib.hid hI
  have HK := Lib.hid hK
  clear hR hb hI hK
  go_enter Tryd.func7, Tryd.ntmps7
  go_wp2_with fail
  refine (anchor_any w HI.out HK.out h2).mono ?_
  rintro e w1 ⟨rfl, hb1⟩
  have HB1 := Lib.hid hb1
  have hz1 := hb1.size
  clear hb1
  by_cases hlen : 200 < bs.length
  · go_wp2
    go_ret
    exact ⟨rfl, HB1.out⟩
  · have hd1 : decide ((200 : Int) < (bs.length : Int)) = false := by simp; omega
    by_cases hneg : at' < 0
    · go_wp2
      go_ret
      exact ⟨rfl, HB1.out⟩
    · have hd2 : decide (at' < 0) = false := by simp; omega
      go_wp2_with fail
      refine (new_any w1 (HI.out.below HB1.out (by omega))).mono ?_
      rintro e w2 ⟨rfl, hw2⟩
      have HH2 : Hid (Hst w2 w1.heap.size [] 0) := Lib.hid (by rw [← hw2]; exact new_hst w1)
      have HB2 : Hid (Below w.heap.size w w2) := Lib.hid (by rw [← hw2]; exact HB1.out.alloc hz1 _)
      have hz2 : w1.heap.size < w2.heap.size := HH2.out.lt
      clear hw2
      go_wp2_with fail
      refine (new_any w2 (HI.out.below HB2.out (by omega))).mono ?_
      rintro e w3 ⟨rfl, hw3⟩
      have HH3 : Hid (Hst w3 w2.heap.size [] 0) := Lib.hid (by rw [← hw3]; exact new_hst w2)
      have HG3 : Hid (Hst w3 w1.heap.size [] 0) := Lib.hid (by rw [← hw3]; exact HH2.out.below ((Below.refl _ _).alloc (Nat.le_refl _) _) hz2)
      have HB3 : Hid (Below w.heap.size w w3) := Lib.hid (by rw [← hw3]; exact HB2.out.alloc (by omega) _)
      clear hw3 HH2
      generalize hg1 : w1.heap.size = g1 at *
      generalize hg2 : w2.heap.size = g2 at *
      clear hg1 hg2 HB1 HB2
      go_wp2
      go_loopw [22] (fun i wr => ∃ k : Nat, k ≤ bs.length ∧ i = .int .i64 k ∧ Hst wr g1 (bs.take k) k ∧ Hst wr g2 [] 0 ∧ Below w.heap.size w wr) (fun i _ => bs.length - (intOf i).toNat)
      case atStart => exact ⟨0, by omega, rfl, by simpa using HG3.out, HH3.out, HB3.out⟩
      case round =>
        obtain ⟨k, hk, rfl, hH1, hH2, hbel⟩ := hrel
        clear HG3 HH3 HB3
        have hs1 := hH1.lt
        have hs2 := hH2.lt
        have HH1 := Lib.hid hH1
        have HH2 := Lib.hid hH2
        have HB := Lib.hid hbel
        clear hH1 hH2 hbel
        by_cases hlt : k < bs.length
        · have hsl := slice_lh A bs.length c k (k + 1) (by omega) (by omega)
          rw [show ((k + 1 : Nat) : Int) = (k : Int) + 1 by omega, show k + 1 - k = 1 by omega] at hsl
          have HR2 : Hid (RdB w w.heap.size (if c = k then A else A.map (·.add k)) ((bs.drop k).take 1)) := Lib.hid (HR.out.cut hc)
          generalize (if c = k then A else A.map (·.add k)) = A2 at hsl HR2
          obtain ⟨hl1, ht1⟩ := one_drop bs k hlt
          have HT1 := Lib.hid ht1
          have HBx : Hid (Sha.Bs ((bs.drop k).take 1)) := Lib.hid ((HBs.out.drop k).take 1)
          clear ht1
          generalize (bs.drop k).take 1 = x at HR2 HT1 HBx hl1
          have hlx : (bs.take k).length = k := by simp; omega
          have HLX := Lib.hid hlx
          have HL1 := Lib.hid hl1
          clear hlx hl1
          go_wp2_with fail
          have hw := write_any wr g1 (bs.take k) x A2 (c - k) HBx.out (by rw [HLX.out]; exact HH1.out) (HR2.out.rd HB.out hz1 (by omega)) (by rw [HL1.out]; omega) (HK.out.below HB.out h2) (by omega) (by rw [HLX.out, HL1.out]; omega)
          rw [HL1.out, HLX.out, ← HT1.out] at hw
          refine hw.mono ?_
          rintro e w4 ⟨rfl, hH4, hg4⟩
          have HH4 := Lib.hid hH4
          have HH5 := Lib.hid (HH2.out.keep hg4 (by omega))
          have HB4 : Hid (Below w.heap.size w w4) := Lib.hid (HB.out.grown hg4 HB.out.size (fun j hj => by injection hj with hj; omega))
          clear hH4 hg4 hw hsl
          go_wp2
          go_roundw
          case rel => exact ⟨k + 1, by omega, by go_num, HH4.out, HH5.out, HB4.out⟩
          case measure => simp [intOf]; omega
        · obtain rfl : k = bs.length := by omega
          rw [List.take_length] at HH1
          obtain ⟨j, hj, hjn⟩ : ∃ j : Nat, at' % ((bs.length : Int) + 1) = (j : Int) ∧ j ≤ bs.length :=
            ⟨(at' % ((bs.length : Int) + 1)).toNat, by have := Int.emod_nonneg at' (show (bs.length : Int) + 1 ≠ 0 by omega); omega, by have := Int.emod_lt_of_pos at' (show 0 < (bs.length : Int) + 1 by omega); have := Int.emod_nonneg at' (show (bs.length : Int) + 1 ≠ 0 by omega); omega⟩
          have hs3 := slice_to A bs.length c j (by omega)
          have hs4 := slice_from A bs.length c j hjn
          have HR4 : Hid (RdB w w.heap.size (if c = j then A else A.map (·.add j)) ((bs.drop j).take (bs.length - j))) := Lib.hid (HR.out.cut hc)
          rw [List.take_of_length_le (by simp)] at HR4
          generalize (if c = j then A else A.map (·.add j)) = A2 at hs4 HR4
          have hlj : (bs.take j).length = j := by simp; omega
          have hlk : (bs.drop j).length = bs.length - j := by simp
          have HLJ := Lib.hid hlj
          have HLK := Lib.hid hlk
          clear hlj hlk
          go_wp2_with fail
          have hw := write_any wr g2 [] (bs.take j) A c (HBs.out.take j) HH2.out ((HR.out.head j).rd HB.out (by omega) (by omega)) (by rw [HLJ.out]; omega) (HK.out.below HB.out h2) (by omega) (by rw [HLJ.out]; simp; omega)
          rw [HLJ.out, List.nil_append, List.length_nil, Nat.zero_add] at hw
          refine hw.mono ?_
          rintro e w4 ⟨rfl, hH4, hg4⟩
          have HH4 := Lib.hid hH4
          have HH5 := Lib.hid (HH1.out.keep hg4 (by omega))
          have HB4 : Hid (Below w.heap.size w w4) := Lib.hid (HB.out.grown hg4 HB.out.size (fun j hj => by injection hj with hj; omega))
          have hs5 : g2 < w4.heap.size := hH4.lt
          clear hH4 hg4 hw
          go_wp2_with fail
          have hw := write_any w4 g2 (bs.take j) (bs.drop j) A2 (c - j) (HBs.out.drop j) (by rw [HLJ.out]; exact HH4.out) (HR4.out.rd HB4.out (by omega) (by omega)) (by rw [HLK.out]; omega) (HK.out.below HB4.out h2) (by omega) (by rw [HLJ.out, HLK.out]; omega)
          rw [HLJ.out, HLK.out, List.take_append_drop, show j + (bs.length - j) = bs.length by omega] at hw
          refine hw.mono ?_
          rintro e w5 ⟨rfl, hH6, hg6⟩
          have HH6 := Lib.hid hH6
          have HH7 := Lib.hid (HH5.out.keep hg6 (by omega))
          have HB5 : Hid (Below w.heap.size w w5) := Lib.hid (HB4.out.grown hg6 HB4.out.size (fun j hj => by injection hj with hj; omega))
          have hs6 : g2 < w5.heap.size := hH6.lt
          clear hH6 hg6 hw hs3 hs4
          go_upto_region 14 with (fail)
          have hC : Cx w5.drew := ⟨HI.out.below HB5.out.drew (by omega), HK.out.below HB5.out.drew h2, by show 2 ≤ w5.heap.size; omega⟩
          have HC := Lib.hid hC
          clear hC
          refine region_inv (Rw w5.drew) (fun i => (kindsB bs i).is) (by kernel_rfl) (by kernel_rfl) (Below.refl _ _) ⟨?_, ?_, ?_, ?_, ?_, ?_, ?_, ?_, ?_, ?_, ?_, ?_, ?_, ?_, ?_, ?_, ?_, ?_, ?_, trivial⟩ ?_
          · exact ob_old ⟨by kernel_rfl, (at0 _ _), ⟨_, rfl, by exact (by decide : 48 < 66)⟩, (.inl rfl)⟩ 5 rfl (by kernel_rfl) (fun w' hr => ⟨g1, rfl, by omega, HH7.out.below (Below.trans ((Below.refl w5.heap.size w5).drew) hr) (by omega)⟩)
          · exact ob_hsum ⟨by kernel_rfl, (atS (at0 _ _)), ⟨_, rfl, by exact (by decide : 49 < 66)⟩, (.inl rfl)⟩ 0 48 _ bs rfl (by kernel_rfl) rfl rfl rfl HC.out (by omega)
          · exact ob_conv ⟨by kernel_rfl, (atS (atS (at0 _ _))), ⟨_, rfl, by exact (by decide : 50 < 66)⟩, (.inl rfl)⟩ 1 49 (Sha.sum bs) rfl (by kernel_rfl) rfl rfl rfl (by rw [Sha.sum_length]; decide)
          · exact ob_old ⟨by kernel_rfl, (atS (atS (atS (at0 _ _)))), ⟨_, rfl, by exact (by decide : 51 < 66)⟩, (.inl rfl)⟩ 0 rfl (by kernel_rfl) (fun w' hr => ⟨HBs.out, A, c, rfl, hc, ((HR.out.below HB5.out).below (Below.trans ((Below.refl w.heap.size w5).drew) (hr.mono (by show w.heap.size ≤ w5.heap.size; omega)))).more (Nat.le_trans (show w.heap.size ≤ w5.heap.size by omega) hr.size)⟩)
          · exact ob_build1 ⟨by kernel_rfl, (atS (atS (atS (atS (at0 _ _))))), ⟨_, rfl, by exact (by decide : 52 < 66)⟩, (.inl rfl)⟩ 3 51 bs rfl (by kernel_rfl) rfl rfl rfl
          · exact ob_sum ⟨by kernel_rfl, (atS (atS (atS (atS (atS (at0 _ _)))))), ⟨_, rfl, by exact (by decide : 53 < 66)⟩, (.inl rfl)⟩ (.tmp 52) _ [bs] rfl (fun _ _ _ h hd => h.opd (j := 4) hd (by kernel_rfl) rfl) (by rw [flat1]; rfl) HC.out (by simp) (by simp; omega)
          · exact ob_conv ⟨by kernel_rfl, (atS (atS (atS (atS (atS (atS (at0 _ _))))))), ⟨_, rfl, by exact (by decide : 54 < 66)⟩, (.inl rfl)⟩ 5 53 (Sha.sum bs) rfl (by kernel_rfl) rfl rfl rfl (by rw [Sha.sum_length]; decide)
          · exact ob_eql ⟨by kernel_rfl, (atS (atS (atS (atS (atS (atS (atS (at0 _ _)))))))), ⟨_, rfl, by exact (by decide : 55 < 66)⟩, (.inl rfl)⟩ 2 6 50 54 (Sha.sum bs) rfl (by kernel_rfl) rfl (by kernel_rfl) rfl rfl rfl rfl
          · exact ob_move ⟨by kernel_rfl, (atS (atS (atS (atS (atS (atS (atS (atS (at0 _ _))))))))), ⟨_, rfl, by exact (by decide : 56 < 66)⟩, (.inl rfl)⟩ 7 55 rfl (by kernel_rfl) rfl rfl
          · exact ob_old ⟨by kernel_rfl, (atS (atS (atS (atS (atS (atS (atS (atS (atS (at0 _ _)))))))))), ⟨_, rfl, by exact (by decide : 57 < 66)⟩, (.inr ⟨8, 56, rfl, rfl, by kernel_rfl, rfl, by exact (by decide : 56 < 66)⟩)⟩ 6 rfl (by kernel_rfl) (fun w' hr => ⟨g2, rfl, by omega, HH6.out.below (Below.trans ((Below.refl w5.heap.size w5).drew) hr) (by omega)⟩)
          · exact ob_hsum ⟨by kernel_rfl, (atS (atS (atS (atS (atS (atS (atS (atS (atS (atS (at0 _ _))))))))))), ⟨_, rfl, by exact (by decide : 58 < 66)⟩, (.inr ⟨8, 56, rfl, rfl, by kernel_rfl, rfl, by exact (by decide : 56 < 66)⟩)⟩ 9 57 _ bs rfl (by kernel_rfl) rfl rfl rfl HC.out (by omega)
          · exact ob_conv ⟨by kernel_rfl, (atS (atS (atS (atS (atS (atS (atS (atS (atS (atS (atS (at0 _ _)))))))))))), ⟨_, rfl, by exact (by decide : 59 < 66)⟩, (.inr ⟨8, 56, rfl, rfl, by kernel_rfl, rfl, by exact (by decide : 56 < 66)⟩)⟩ 10 58 (Sha.sum bs) rfl (by kernel_rfl) rfl rfl rfl (by rw [Sha.sum_length]; decide)
          · exact ob_old ⟨by kernel_rfl, (atS (atS (atS (atS (atS (atS (atS (atS (atS (atS (atS (atS (at0 _ _))))))))))))), ⟨_, rfl, by exact (by decide : 60 < 66)⟩, (.inr ⟨8, 56, rfl, rfl, by kernel_rfl, rfl, by exact (by decide : 56 < 66)⟩)⟩ 0 rfl (by kernel_rfl) (fun w' hr => ⟨HBs.out, A, c, rfl, hc, ((HR.out.below HB5.out).below (Below.trans ((Below.refl w.heap.size w5).drew) (hr.mono (by show w.heap.size ≤ w5.heap.size; omega)))).more (Nat.le_trans (show w.heap.size ≤ w5.heap.size by omega) hr.size)⟩)
          · exact ob_build1 ⟨by kernel_rfl, (atS (atS (atS (atS (atS (atS (atS (atS (atS (atS (atS (atS (atS (at0 _ _)))))))))))))), ⟨_, rfl, by exact (by decide : 61 < 66)⟩, (.inr ⟨8, 56, rfl, rfl, by kernel_rfl, rfl, by exact (by decide : 56 < 66)⟩)⟩ 12 60 bs rfl (by kernel_rfl) rfl rfl rfl
          · exact ob_sum ⟨by kernel_rfl, (atS (atS (atS (atS (atS (atS (atS (atS (atS (atS (atS (atS (atS (atS (at0 _ _))))))))))))))), ⟨_, rfl, by exact (by decide : 62 < 66)⟩, (.inr ⟨8, 56, rfl, rfl, by kernel_rfl, rfl, by exact (by decide : 56 < 66)⟩)⟩ (.tmp 61) _ [bs] rfl (fun _ _ _ h hd => h.opd (j := 13) hd (by kernel_rfl) rfl) (by rw [flat1]; rfl) HC.out (by simp) (by simp; omega)
          · exact ob_conv ⟨by kernel_rfl, (atS (atS (atS (atS (atS (atS (atS (atS (atS (atS (atS (atS (atS (atS (atS (at0 _ _)))))))))))))))), ⟨_, rfl, by exact (by decide : 63 < 66)⟩, (.inr ⟨8, 56, rfl, rfl, by kernel_rfl, rfl, by exact (by decide : 56 < 66)⟩)⟩ 14 62 (Sha.sum bs) rfl (by kernel_rfl) rfl rfl rfl (by rw [Sha.sum_length]; decide)
          · exact ob_eql ⟨by kernel_rfl, (atS (atS (atS (atS (atS (atS (atS (atS (atS (atS (atS (atS (atS (atS (atS (atS (at0 _ _))))))))))))))))), ⟨_, rfl, by exact (by decide : 64 < 66)⟩, (.inr ⟨8, 56, rfl, rfl, by kernel_rfl, rfl, by exact (by decide : 56 < 66)⟩)⟩ 11 15 59 63 (Sha.sum bs) rfl (by kernel_rfl) rfl (by kernel_rfl) rfl rfl rfl rfl
          · exact ob_pick ⟨by kernel_rfl, (atS (atS (atS (atS (atS (atS (atS (atS (atS (atS (atS (atS (atS (atS (atS (atS (atS (at0 _ _)))))))))))))))))), ⟨_, rfl, by exact (by decide : 65 < 66)⟩, (.inl rfl)⟩ 8 16 56 64 rfl (by kernel_rfl) rfl (by kernel_rfl) rfl rfl rfl rfl
          · exact ob_assign ⟨by kernel_rfl, (atS (atS (atS (atS (atS (atS (atS (atS (atS (atS (atS (atS (atS (atS (atS (atS (atS (atS (at0 _ _))))))))))))))))))), ⟨_, rfl, by exact (by decide : 4 < 66)⟩, (.inl rfl)⟩ 17 65 rfl (by kernel_rfl) rfl rfl
          · intro a' w' hG hdf hsz hold hr
            have hv : a'.tmps.getD 4 undef = .bool true := hG 18 4 (by exact (by decide : 18 < 19)) rfl
            have HF := Lib.hid (HB5.out.drew.trans (hr.mono (show w.heap.size ≤ w5.heap.size by omega)))
            clear hr hG hold hsz
            go_wp2
            refine bodyPost_ret (results_tmp rfl _ _ _) hdf ⟨?_, HF.out⟩
            rw [hv]
end Go.Proofs.YtcllepdkhcikoaaDoor
