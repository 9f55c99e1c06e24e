/-
  The walk of the statement ShaSums: whatever the bytes it returns true, and nothing that was there before has changed.
-/
import Derived.Test.YtcllepdkhcikoaaDoorReg5
namespace Go.Proofs.YtcllepdkhcikoaaDoor
open Go.RowKit
def kindsS (A : Option Addr) (c : Nat) (bs : List Nat) (i : Nat) : Kd := ([.bytes bs, .parts [bs], .row (Sha.sum bs), .str (Sha.sum bs), .val (.slice A bs.length c), .row (Sha.sum bs), .str (Sha.sum bs), .val (.bool true), .val (.bool true)] : List Kd).getD i (.val undef)
set_option maxRecDepth 100000
set_option maxHeartbeats 1000000 in
theorem shaSums_any (w : World) (A : Option Addr) (c : Nat) (bs : List Nat) (hR : RdB w w.heap.size A bs) (hn : A = none → c = 0) (hc : bs.length ≤ c) (hb : Sha.Bs bs) (hI : Iat w) (hK : Kat w) (h2 : 2 ≤ w.heap.size) (hm : bs.length ≤ 9223372036854775807) :
    Calls Tryd.prog 3 #[.slice A bs.length c] w fun e w' => e = .returned (.bool true) ∧ Below w.heap.size w w' := by
  have HR := Lib.hid hR
  have HN := Lib.hid hn
  have HBs := Lib.hid hb
  have HI := Lib.hid hI
  have HK := Lib.hid hK
  clear hR hn hb hI hK
  go_enter Tryd.func3, Tryd.ntmps3
  go_wp2_with fail
  refine (anchor_any w HI.out HK.out h2).mono ?_
  rintro e w1 ⟨rfl, hb1⟩
  have HB1 := Lib.hid hb1
  have hz1 := hb1.size
  clear hb1
  by_cases hlen : 400 < bs.length
  · go_wp2
    go_ret
    exact ⟨rfl, HB1.out⟩
  · have hd1 : decide ((400 : Int) < (bs.length : Int)) = false := by simp; omega
    go_upto_region 5 with (fail)
    have hC : Cx w1.drew := ⟨HI.out.below HB1.out.drew (by omega), HK.out.below HB1.out.drew h2, by show 2 ≤ w1.heap.size; omega⟩
    have HC := Lib.hid hC
    clear hC
    refine region_inv (Rw w1.drew) (fun i => (kindsS A c bs i).is) (by kernel_rfl) (by kernel_rfl) (Below.refl _ _) ⟨?_, ?_, ?_, ?_, ?_, ?_, ?_, ?_, ?_, trivial⟩ ?_
    · exact ob_old ⟨by kernel_rfl, (at0 _ _), ⟨_, rfl, by exact (by decide : 8 < 16)⟩, (.inl rfl)⟩ 0 rfl (by kernel_rfl) (fun w' hr => ⟨HBs.out, A, c, rfl, hc, HR.out.inRegion HB1.out hr⟩)
    · exact ob_build1 ⟨by kernel_rfl, (atS (at0 _ _)), ⟨_, rfl, by exact (by decide : 9 < 16)⟩, (.inl rfl)⟩ 0 8 bs rfl (by kernel_rfl) rfl rfl rfl
    · exact ob_sum ⟨by kernel_rfl, (atS (atS (at0 _ _))), ⟨_, rfl, by exact (by decide : 10 < 16)⟩, (.inl rfl)⟩ (.tmp 9) _ [bs] rfl (fun _ _ _ h hd => h.opd (j := 1) hd (by kernel_rfl) rfl) (by rw [flat1]; rfl) HC.out (by simp) (by simp; omega)
    · exact ob_conv ⟨by kernel_rfl, (atS (atS (atS (at0 _ _)))), ⟨_, rfl, by exact (by decide : 11 < 16)⟩, (.inl rfl)⟩ 2 10 (Sha.sum bs) rfl (by kernel_rfl) rfl rfl rfl (by rw [Sha.sum_length]; decide)
    · exact ob_old ⟨by kernel_rfl, (atS (atS (atS (atS (at0 _ _))))), ⟨_, rfl, by exact (by decide : 12 < 16)⟩, (.inl rfl)⟩ 0 rfl (by kernel_rfl) (fun w' hr => rfl)
    · exact ob_ref ⟨by kernel_rfl, (atS (atS (atS (atS (atS (at0 _ _)))))), ⟨_, rfl, by exact (by decide : 13 < 16)⟩, (.inl rfl)⟩ (.tmp 12) _ A c bs rfl (fun _ _ _ h hd => h.opd (j := 4) hd (by kernel_rfl) rfl) rfl HN.out (fun w' hr => HR.out.inRegion HB1.out hr) HBs.out (by omega)
    · exact ob_conv ⟨by kernel_rfl, (atS (atS (atS (atS (atS (atS (at0 _ _))))))), ⟨_, rfl, by exact (by decide : 14 < 16)⟩, (.inl rfl)⟩ 5 13 (Sha.sum bs) rfl (by kernel_rfl) rfl rfl rfl (by rw [Sha.sum_length]; decide)
    · exact ob_eql ⟨by kernel_rfl, (atS (atS (atS (atS (atS (atS (atS (at0 _ _)))))))), ⟨_, rfl, by exact (by decide : 15 < 16)⟩, (.inl rfl)⟩ 3 6 11 14 (Sha.sum bs) rfl (by kernel_rfl) rfl (by kernel_rfl) rfl rfl rfl rfl
    · exact ob_assign ⟨by kernel_rfl, (atS (atS (atS (atS (atS (atS (atS (atS (at0 _ _))))))))), ⟨_, rfl, by exact (by decide : 2 < 16)⟩, (.inl rfl)⟩ 7 15 rfl (by kernel_rfl) rfl rfl
    · intro a' w' hG hdf hsz hold hr
      have hv : a'.tmps.getD 2 undef = .bool true := hG 8 2 (by exact (by decide : 8 < 9)) rfl
      have HF := Lib.hid (HB1.out.drew.trans (hr.mono (show w.heap.size ≤ w1.heap.size from hz1)))
      clear hr hG hold hsz
      go_wp2
      refine bodyPost_ret (results_tmp rfl _ _ _) hdf ⟨?_, HF.out⟩
      rw [hv]
end Go.Proofs.YtcllepdkhcikoaaDoor
