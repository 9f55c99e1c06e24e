/-
  The walk of the statement MacLong: whatever the bytes it returns true, and nothing that was there before has changed.
-/
import Derived.Test.YtfkkpbfoipfekaaDoorReg8
import Derived.Test.YtfkkpbfoipfekaaDoorR5
namespace Go.Proofs.YtfkkpbfoipfekaaDoor
open Go.RowKit
theorem row_key {w : World} {v : Value} {l : List Nat} (h : (Kd.row l).is w v) : ∃ A c, v = .slice A l.length c ∧ RdB w w.heap.size A l ∧ (A = none → c = 0) ∧ l.length ≤ c := by
  obtain ⟨base, h⟩ := h
  obtain ⟨A, c, e, h1, _, h2, h3, _⟩ := own_form h
  exact ⟨A, c, e, h3, h2, h1⟩
def kindsG (A : Option Addr) (c : Nat) (key m : List Nat) (i : Nat) : Kd := ([.val (.slice A key.length c), .bytes m, .parts [m], .row (Mac.code key m), .str (Mac.code key m), .val (.slice A key.length c), .row (Sha.sum key), .bytes m, .parts [m], .row (Mac.code key m), .str (Mac.code key m), .val (.bool true), .val (.bool true)] : List Kd).getD i (.val undef)
set_option maxRecDepth 100000
set_option maxHeartbeats 1000000 in
theorem macLong_any (w : World) (A B : Option Addr) (c d : Nat) (key m : List Nat) (hRk : RdB w w.heap.size A key) (hRm : RdB w w.heap.size B m) (hAc : A = none → c = 0) (hc : key.length ≤ c) (hd : m.length ≤ d) (hbk : Sha.Bs key) (hbm : Sha.Bs m) (hI : Iat w) (hK : Kat w) (h2 : 2 ≤ w.heap.size) :
    Calls Tryd.prog 7 #[.slice A key.length c, .slice B m.length d] w fun e w' => e = .returned (.bool true) ∧ Below w.heap.size w w' := by
  have HRk := Lib.hid hRk
  have HRm := Lib.hid hRm
  have HBk := Lib.hid hbk
  have HBm := Lib.hid hbm
  have HI := Lib.hid hI
  have HK := Lib.hid hK
  have HAc := Lib.hid hAc
  clear hRk hRm hbk hbm hI hK hAc
  go_enter Tryd.func7, Tryd.ntmps7
  go_wp2_with fail
  refine (anchor_any w HI.out HK.out h2).mono ?_
  rintro e w1 ⟨rfl, hb1⟩
  have HB1 := Lib.hid hb1
  have hz1 := hb1.size
  clear hb1
  by_cases hl1 : key.length ≤ 64
  · have hd1 : decide ((key.length : Int) ≤ 64) = true := by simp; omega
    go_wp2
    go_ret
    exact ⟨rfl, HB1.out⟩
  · have hd1 : decide ((key.length : Int) ≤ 64) = false := by simp; omega
    by_cases hl2 : 300 < key.length
    · have hd2 : decide ((300 : Int) < (key.length : Int)) = true := by simp; omega
      go_wp2
      go_ret
      exact ⟨rfl, HB1.out⟩
    · have hd2 : decide ((300 : Int) < (key.length : Int)) = false := by simp; omega
      by_cases hl3 : 200 < m.length
      · have hd3 : decide ((200 : Int) < (m.length : Int)) = true := by simp; omega
        go_wp2
        go_ret
        exact ⟨rfl, HB1.out⟩
      · have hd3 : decide ((200 : Int) < (m.length : Int)) = false := by simp; omega
        have HC : Hid (Cx w1.drew) := Lib.hid ⟨HI.out.below HB1.out.drew (by omega), HK.out.below HB1.out.drew h2, by show 2 ≤ w1.heap.size; omega⟩
        have HL := Lib.hid (Mac.code_long key m (by omega))
        go_upto_region 5 with (fail)
        refine region_inv (Rw w1.drew) (fun i => (kindsG A c key m i).is) (by kernel_rfl) (by kernel_rfl) (Below.refl _ _) ⟨?_, ?_, ?_, ?_, ?_, ?_, ?_, ?_, ?_, ?_, ?_, ?_, ?_, trivial⟩ ?_
        · exact ob_old ⟨by kernel_rfl, (at0 _ _), ⟨_, rfl, by exact (by decide : 20 < 32)⟩, (.inl rfl)⟩ 0 rfl (by kernel_rfl) (fun w' hr => rfl)
        · exact ob_old ⟨by kernel_rfl, (atS (at0 _ _)), ⟨_, rfl, by exact (by decide : 21 < 32)⟩, (.inl rfl)⟩ 1 rfl (by kernel_rfl) (fun w' hr => ⟨HBm.out, B, d, rfl, hd, HRm.out.inRegion HB1.out hr⟩)
        · exact ob_build1 ⟨by kernel_rfl, (atS (atS (at0 _ _))), ⟨_, rfl, by exact (by decide : 22 < 32)⟩, (.inl rfl)⟩ 1 21 m rfl (by kernel_rfl) rfl rfl rfl
        · exact ob_code ⟨by kernel_rfl, (atS (atS (atS (at0 _ _)))), ⟨_, rfl, by exact (by decide : 23 < 32)⟩, (.inl rfl)⟩ (.tmp 20) (.tmp 22) _ key [m] rfl (fun _ _ w' h hd => ⟨A, c, h.opd (j := 0) hd (by kernel_rfl) rfl, HRk.out.inRegion HB1.out h.world, HAc.out, hc⟩) (fun _ _ _ h hd => h.opd (j := 2) hd (by kernel_rfl) rfl) (by rw [flat1]; rfl) HC.out HBk.out (by omega) (by simp) (by simp; omega)
        · exact ob_conv ⟨by kernel_rfl, (atS (atS (atS (atS (at0 _ _))))), ⟨_, rfl, by exact (by decide : 24 < 32)⟩, (.inl rfl)⟩ 3 23 (Mac.code key m) rfl (by kernel_rfl) rfl rfl rfl (by rw [Mac.code_length]; decide)
        · exact ob_old ⟨by kernel_rfl, (atS (atS (atS (atS (atS (at0 _ _)))))), ⟨_, rfl, by exact (by decide : 25 < 32)⟩, (.inl rfl)⟩ 0 rfl (by kernel_rfl) (fun w' hr => rfl)
        · exact ob_ref ⟨by kernel_rfl, (atS (atS (atS (atS (atS (atS (at0 _ _))))))), ⟨_, rfl, by exact (by decide : 26 < 32)⟩, (.inl rfl)⟩ (.tmp 25) _ A c key rfl (fun _ _ _ h hd => h.opd (j := 5) hd (by kernel_rfl) rfl) rfl HAc.out (fun w' hr => HRk.out.inRegion HB1.out hr) HBk.out (by omega)
        · exact ob_old ⟨by kernel_rfl, (atS (atS (atS (atS (atS (atS (atS (at0 _ _)))))))), ⟨_, rfl, by exact (by decide : 27 < 32)⟩, (.inl rfl)⟩ 1 rfl (by kernel_rfl) (fun w' hr => ⟨HBm.out, B, d, rfl, hd, HRm.out.inRegion HB1.out hr⟩)
        · exact ob_build1 ⟨by kernel_rfl, (atS (atS (atS (atS (atS (atS (atS (atS (at0 _ _))))))))), ⟨_, rfl, by exact (by decide : 28 < 32)⟩, (.inl rfl)⟩ 7 27 m rfl (by kernel_rfl) rfl rfl rfl
        · exact ob_code ⟨by kernel_rfl, (atS (atS (atS (atS (atS (atS (atS (atS (atS (at0 _ _)))))))))), ⟨_, rfl, by exact (by decide : 29 < 32)⟩, (.inl rfl)⟩ (.tmp 26) (.tmp 28) _ (Sha.sum key) [m] rfl (fun _ _ w' h hd => row_key (h.opd (j := 6) hd (by kernel_rfl) rfl)) (fun _ _ _ h hd => h.opd (j := 8) hd (by kernel_rfl) rfl) (by rw [flat1, ← HL.out]; rfl) HC.out (Sha.sum_Bs _) (by rw [Sha.sum_length]; decide) (by simp) (by simp; omega)
        · exact ob_conv ⟨by kernel_rfl, (atS (atS (atS (atS (atS (atS (atS (atS (atS (atS (at0 _ _))))))))))), ⟨_, rfl, by exact (by decide : 30 < 32)⟩, (.inl rfl)⟩ 9 29 (Mac.code key m) rfl (by kernel_rfl) rfl rfl rfl (by rw [Mac.code_length]; decide)
        · exact ob_eql ⟨by kernel_rfl, (atS (atS (atS (atS (atS (atS (atS (atS (atS (atS (atS (at0 _ _)))))))))))), ⟨_, rfl, by exact (by decide : 31 < 32)⟩, (.inl rfl)⟩ 4 10 24 30 (Mac.code key m) rfl (by kernel_rfl) rfl (by kernel_rfl) rfl rfl rfl rfl
        · exact ob_assign ⟨by kernel_rfl, (atS (atS (atS (atS (atS (atS (atS (atS (atS (atS (atS (atS (at0 _ _))))))))))))), ⟨_, rfl, by exact (by decide : 4 < 32)⟩, (.inl rfl)⟩ 11 31 rfl (by kernel_rfl) rfl rfl
        · intro a' w' hG hdf hsz hold hr
          have hv : a'.tmps.getD 4 undef = .bool true := hG 12 4 (by exact (by decide : 12 < 13)) rfl
          have HF := Lib.hid (HB1.out.drew.trans (hr.mono (show w.heap.size ≤ w1.heap.size by omega)))
          clear hr hG hold hsz
          go_wp2
          refine bodyPost_ret (results_tmp rfl _ _ _) hdf ⟨?_, HF.out⟩
          rw [hv]
end Go.Proofs.YtfkkpbfoipfekaaDoor
