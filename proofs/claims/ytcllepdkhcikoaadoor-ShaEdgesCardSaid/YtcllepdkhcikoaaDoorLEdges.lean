/-
  The walk of the statement ShaEdges: whatever the number and the byte it returns true, and nothing that was there before has changed.
-/
import Derived.Test.YtcllepdkhcikoaaDoorReg6
namespace Go.Proofs.YtcllepdkhcikoaaDoor
open Go.RowKit
def kindsE (A : Option Addr) (c : Nat) (bs : List Nat) (i : Nat) : Kd := ([.bytes bs, .parts [bs], .row (Sha.sum bs), .str (Sha.sum bs), .val (.slice A bs.length c), .row (Sha.sum bs), .str (Sha.sum bs), .val (.bool true), .val (.bool true), .bytes bs, .parts [bs], .row (Sha.sum bs), .val (.int .i64 32), .val (.bool true), .val (.bool true), .val (.bool true)] : List Kd).getD i (.val undef)
set_option maxRecDepth 100000
set_option maxHeartbeats 1000000 in
theorem shaEdges_any (w : World) (n : Int) (x : Nat) (hx : x < 256) (hI : Iat w) (hK : Kat w) (h2 : 2 ≤ w.heap.size) :
    Calls Tryd.prog 5 #[.int .i64 n, .int .u8 (x : Int)] w fun e w' => e = .returned (.bool true) ∧ Below w.heap.size w w' := by
  have HI := Lib.hid hI
  have HK := Lib.hid hK
  clear hI hK
  go_enter Tryd.func5, Tryd.ntmps5
  go_wp2_with fail
  refine (anchor_any w HI.out HK.out h2).mono ?_
  rintro e w1 ⟨rfl, hb1⟩
  have HB1 := Lib.hid hb1
  have hz1 := hb1.size
  clear hb1
  by_cases hn0 : n < 0
  · have hd1 : decide (n < 0) = true := by simp; omega
    go_wp2
    go_ret
    exact ⟨rfl, HB1.out⟩
  · have hd1 : decide (n < 0) = false := by simp; omega
    by_cases hn1 : 200 < n
    · have hd2 : decide (200 < n) = true := by simp; omega
      go_wp2
      go_ret
      exact ⟨rfl, HB1.out⟩
    · have hd2 : decide (200 < n) = false := by simp; omega
      obtain ⟨k, rfl⟩ : ∃ k : Nat, n = (k : Int) := ⟨n.toNat, by omega⟩
      obtain ⟨i0, hi0, hz0, hzz1, hz2⟩ := info_parts Tryd.info5
      go_wp2_with (first
        | (refine wpList_make_full _ rfl _ _ 22 rfl w1.heap.size 5 i0 _ 1 Tryd.underlying22 hi0 hz0 hzz1 _ _ _ _ k rfl rfl rfl rfl (by rw [hz2]; omega) (by simp [maxLen]; omega) (Nat.le_refl _) ?_; intro w2 hown2 hgrow2)
        | fail)
      rw [made_zero, fillc_zero k 0 x] at hown2
      have HO2 := Lib.hid hown2
      have HB2 : Hid (Below w.heap.size w w2) := Lib.hid (HB1.out.grown hgrow2 hz1 (fun j hj => by cases hj))
      clear hown2 hgrow2 HB1
      generalize hg : w1.heap.size = g at *
      clear hg
      go_loopw [19] (fun i wr => ∃ j : Nat, j ≤ k ∧ i = .int .i64 j ∧ wr.ownsRow g 5 1 (.slice (some ⟨g, 0, none⟩) k k) k (vals .u8 (fillc k x j)) ∧ Below w.heap.size w wr) (fun i _ => k - (intOf i).toNat)
      case atStart => exact ⟨0, by omega, rfl, HO2.out, HB2.out⟩
      case round =>
        obtain ⟨j, hj, rfl, hown, hbel⟩ := hrel
        clear HO2 HB2
        have HO := Lib.hid hown
        have HB := Lib.hid hbel
        have hl := fillc_length k x j hj
        by_cases hlt : j < k
        · have c0 : wr.cell? ⟨g, j, none⟩ = some (.int .u8 ((fillc k x j).getD j 0 : Nat)) := (hown.cellAt _ (by omega)).trans (vals_get _ _ _ (by omega))
          have c1 : wr.frozen? ⟨g, j, none⟩ = false := hown.frozenAt j
          have HN : Hid ((wr.setCell ⟨g, j, none⟩ (.int .u8 (x : Int))).ownsRow g 5 1 (.slice (some ⟨g, 0, none⟩) k k) k (vals .u8 (fillc k x (j + 1)))) := Lib.hid (by
            have := (hown.stored j (.int .u8 (x : Int))).1
            rw [show (vals .u8 (fillc k x j)).set j (.int .u8 (x : Int)) = vals .u8 ((fillc k x j).set j x) by simp [vals, List.map_set], fillc_set k x j hlt] at this
            exact this)
          have HB3 : Hid (Below w.heap.size w (wr.setCell ⟨g, j, none⟩ (.int .u8 (x : Int)))) := Lib.hid (hbel.setCell (p := ⟨g, j, none⟩) hz1 _)
          clear hown hbel hl
          go_wp2
          go_roundw
          case rel => exact ⟨j + 1, by omega, by go_num, HN.out, HB3.out⟩
          case measure => simp [intOf]; omega
        · obtain rfl : j = k := by omega
          have hB := fillc_Bs j x j hx
          generalize hbs : fillc j x j = bs at *
          clear hbs
          subst hl
          have hrd : RdB wr wr.heap.size (some ⟨g, 0, none⟩) bs := fun hp => ⟨_, rfl, (hown.lt g rfl).2, hown.cells rfl⟩
          have hsz := hbel.size
          have HR := Lib.hid hrd
          clear hown hbel HO
          go_upto_region 11 with (fail)
          have hC : Cx wr.drew := ⟨HI.out.below HB.out.drew (by omega), HK.out.below HB.out.drew h2, by show 2 ≤ wr.heap.size; omega⟩
          have HC := Lib.hid hC
          clear hC
          refine region_inv (Rw wr.drew) (fun i => (kindsE (some ⟨g, 0, none⟩) bs.length bs i).is) (by kernel_rfl) (by kernel_rfl) (Below.refl _ _) ⟨?_, ?_, ?_, ?_, ?_, ?_, ?_, ?_, ?_, ?_, ?_, ?_, ?_, ?_, ?_, ?_, trivial⟩ ?_
          · exact ob_old ⟨by kernel_rfl, (at0 _ _), ⟨_, rfl, by exact (by decide : 27 < 42)⟩, (.inl rfl)⟩ 5 rfl (by kernel_rfl) (fun w' hr => ⟨hB, _, _, rfl, Nat.le_refl _, HR.out.inRegion (Below.refl _ _) hr⟩)
          · exact ob_build1 ⟨by kernel_rfl, (atS (at0 _ _)), ⟨_, rfl, by exact (by decide : 28 < 42)⟩, (.inl rfl)⟩ 0 27 bs rfl (by kernel_rfl) rfl rfl rfl
          · exact ob_sum ⟨by kernel_rfl, (atS (atS (at0 _ _))), ⟨_, rfl, by exact (by decide : 29 < 42)⟩, (.inl rfl)⟩ (.tmp 28) _ [bs] rfl (fun _ _ _ h hd => h.opd (j := 1) hd (by kernel_rfl) rfl) (by rw [flat1]; rfl) HC.out (by simp) (by simp; omega)
          · exact ob_conv ⟨by kernel_rfl, (atS (atS (atS (at0 _ _)))), ⟨_, rfl, by exact (by decide : 30 < 42)⟩, (.inl rfl)⟩ 2 29 (Sha.sum bs) rfl (by kernel_rfl) rfl rfl rfl (by rw [Sha.sum_length]; decide)
          · exact ob_old ⟨by kernel_rfl, (atS (atS (atS (atS (at0 _ _))))), ⟨_, rfl, by exact (by decide : 31 < 42)⟩, (.inl rfl)⟩ 5 rfl (by kernel_rfl) (fun w' hr => rfl)
          · exact ob_ref ⟨by kernel_rfl, (atS (atS (atS (atS (atS (at0 _ _)))))), ⟨_, rfl, by exact (by decide : 32 < 42)⟩, (.inl rfl)⟩ (.tmp 31) _ (some ⟨g, 0, none⟩) bs.length bs rfl (fun _ _ _ h hd => h.opd (j := 4) hd (by kernel_rfl) rfl) rfl (fun e => by cases e) (fun w' hr => HR.out.inRegion (Below.refl _ _) hr) hB (by omega)
          · exact ob_conv ⟨by kernel_rfl, (atS (atS (atS (atS (atS (atS (at0 _ _))))))), ⟨_, rfl, by exact (by decide : 33 < 42)⟩, (.inl rfl)⟩ 5 32 (Sha.sum bs) rfl (by kernel_rfl) rfl rfl rfl (by rw [Sha.sum_length]; decide)
          · exact ob_eql ⟨by kernel_rfl, (atS (atS (atS (atS (atS (atS (atS (at0 _ _)))))))), ⟨_, rfl, by exact (by decide : 34 < 42)⟩, (.inl rfl)⟩ 3 6 30 33 (Sha.sum bs) rfl (by kernel_rfl) rfl (by kernel_rfl) rfl rfl rfl rfl
          · exact ob_move ⟨by kernel_rfl, (atS (atS (atS (atS (atS (atS (atS (atS (at0 _ _))))))))), ⟨_, rfl, by exact (by decide : 35 < 42)⟩, (.inl rfl)⟩ 7 34 rfl (by kernel_rfl) rfl rfl
          · exact ob_old ⟨by kernel_rfl, (atS (atS (atS (atS (atS (atS (atS (atS (atS (at0 _ _)))))))))), ⟨_, rfl, by exact (by decide : 36 < 42)⟩, (.inr ⟨8, 35, rfl, rfl, by kernel_rfl, rfl, by exact (by decide : 35 < 42)⟩)⟩ 5 rfl (by kernel_rfl) (fun w' hr => ⟨hB, _, _, rfl, Nat.le_refl _, HR.out.inRegion (Below.refl _ _) hr⟩)
          · exact ob_build1 ⟨by kernel_rfl, (atS (atS (atS (atS (atS (atS (atS (atS (atS (atS (at0 _ _))))))))))), ⟨_, rfl, by exact (by decide : 37 < 42)⟩, (.inr ⟨8, 35, rfl, rfl, by kernel_rfl, rfl, by exact (by decide : 35 < 42)⟩)⟩ 9 36 bs rfl (by kernel_rfl) rfl rfl rfl
          · exact ob_sum ⟨by kernel_rfl, (atS (atS (atS (atS (atS (atS (atS (atS (atS (atS (atS (at0 _ _)))))))))))), ⟨_, rfl, by exact (by decide : 38 < 42)⟩, (.inr ⟨8, 35, rfl, rfl, by kernel_rfl, rfl, by exact (by decide : 35 < 42)⟩)⟩ (.tmp 37) _ [bs] rfl (fun _ _ _ h hd => h.opd (j := 10) hd (by kernel_rfl) rfl) (by rw [flat1]; rfl) HC.out (by simp) (by simp; omega)
          · exact ob_len ⟨by kernel_rfl, (atS (atS (atS (atS (atS (atS (atS (atS (atS (atS (atS (atS (at0 _ _))))))))))))), ⟨_, rfl, by exact (by decide : 39 < 42)⟩, (.inr ⟨8, 35, rfl, rfl, by kernel_rfl, rfl, by exact (by decide : 35 < 42)⟩)⟩ 11 38 (Sha.sum bs) rfl (by kernel_rfl) rfl rfl (by rw [Sha.sum_length]; rfl)
          · exact ob_eqi ⟨by kernel_rfl, (atS (atS (atS (atS (atS (atS (atS (atS (atS (atS (atS (atS (atS (at0 _ _)))))))))))))), ⟨_, rfl, by exact (by decide : 40 < 42)⟩, (.inr ⟨8, 35, rfl, rfl, by kernel_rfl, rfl, by exact (by decide : 35 < 42)⟩)⟩ 12 39 32 rfl (by kernel_rfl) rfl rfl rfl
          · exact ob_pick ⟨by kernel_rfl, (atS (atS (atS (atS (atS (atS (atS (atS (atS (atS (atS (atS (atS (atS (at0 _ _))))))))))))))), ⟨_, rfl, by exact (by decide : 41 < 42)⟩, (.inl rfl)⟩ 8 13 35 40 rfl (by kernel_rfl) rfl (by kernel_rfl) rfl rfl rfl rfl
          · exact ob_assign ⟨by kernel_rfl, (atS (atS (atS (atS (atS (atS (atS (atS (atS (atS (atS (atS (atS (atS (atS (at0 _ _)))))))))))))))), ⟨_, rfl, by exact (by decide : 4 < 42)⟩, (.inl rfl)⟩ 14 41 rfl (by kernel_rfl) rfl rfl
          · intro a' w' hG hdf hsz' hold hr
            have hv : a'.tmps.getD 4 undef = .bool true := hG 15 4 (by exact (by decide : 15 < 16)) rfl
            have HF := Lib.hid (HB.out.drew.trans (hr.mono (show w.heap.size ≤ wr.heap.size from hsz)))
            clear hr hG hold hsz'
            go_wp2
            refine bodyPost_ret (results_tmp rfl _ _ _) hdf ⟨?_, HF.out⟩
            rw [hv]
end Go.Proofs.YtcllepdkhcikoaaDoor
