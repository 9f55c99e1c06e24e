/-
  The walk of the statement MacEqual: whatever the bytes it returns true, and nothing that was there before has changed.
-/
import Derived.Test.YtfkkpbfoipfekaaDoorReg8
namespace Go.Proofs.YtfkkpbfoipfekaaDoor
open Go.RowKit
def kindsE (xs ys : List Nat) (i : Nat) : Kd := ([.bytes xs, .bytes ys, .val (.bool (decide (xs = ys))), .bytes xs, .str xs, .bytes ys, .str ys, .val (.bool (decide (xs = ys))), .val (.bool true), .val (.bool true), .bytes xs, .bytes xs, .val (.bool true), .val (.bool true), .val (.bool true)] : List Kd).getD i (.val undef)
set_option maxRecDepth 100000
set_option maxHeartbeats 1000000 in
theorem macEqual_any (w : World) (A B : Option Addr) (c d : Nat) (xs ys : List Nat) (hRx : RdB w w.heap.size A xs) (hRy : RdB w w.heap.size B ys) (hc : xs.length ≤ c) (hd : ys.length ≤ d) (hbx : Sha.Bs xs) (hby : Sha.Bs ys) (hI : Iat w) (hK : Kat w) (h2 : 2 ≤ w.heap.size) (hmx : xs.length ≤ 9223372036854775807) :
    Calls Tryd.prog 6 #[.slice A xs.length c, .slice B ys.length d] w fun e w' => e = .returned (.bool true) ∧ Below w.heap.size w w' := by
  have HRx := Lib.hid hRx
  have HRy := Lib.hid hRy
  have HBx := Lib.hid hbx
  have HBy := Lib.hid hby
  have HI := Lib.hid hI
  have HK := Lib.hid hK
  clear hRx hRy hbx hby hI hK
  go_enter Tryd.func6, Tryd.ntmps6
  go_wp2_with fail
  refine (anchor_any w HI.out HK.out h2).mono ?_
  rintro e w1 ⟨rfl, hb1⟩
  have HB1 := Lib.hid hb1
  have hz1 := hb1.size
  clear hb1
  go_upto_region 3 with (fail)
  refine region_inv (Rw w1.drew) (fun i => (kindsE xs ys i).is) (by kernel_rfl) (by kernel_rfl) (Below.refl _ _) ⟨?_, ?_, ?_, ?_, ?_, ?_, ?_, ?_, ?_, ?_, ?_, ?_, ?_, ?_, ?_, trivial⟩ ?_
  · exact ob_old ⟨by kernel_rfl, (at0 _ _), ⟨_, rfl, by exact (by decide : 7 < 21)⟩, (.inl rfl)⟩ 0 rfl (by kernel_rfl) (fun w' hr => ⟨HBx.out, A, c, rfl, hc, HRx.out.inRegion HB1.out hr⟩)
  · exact ob_old ⟨by kernel_rfl, (atS (at0 _ _)), ⟨_, rfl, by exact (by decide : 8 < 21)⟩, (.inl rfl)⟩ 1 rfl (by kernel_rfl) (fun w' hr => ⟨HBy.out, B, d, rfl, hd, HRy.out.inRegion HB1.out hr⟩)
  · exact ob_equal ⟨by kernel_rfl, (atS (atS (at0 _ _))), ⟨_, rfl, by exact (by decide : 9 < 21)⟩, (.inl rfl)⟩ 0 1 7 8 _ xs ys rfl (by kernel_rfl) rfl (by kernel_rfl) rfl rfl rfl rfl hmx
  · exact ob_old ⟨by kernel_rfl, (atS (atS (atS (at0 _ _)))), ⟨_, rfl, by exact (by decide : 10 < 21)⟩, (.inl rfl)⟩ 0 rfl (by kernel_rfl) (fun w' hr => ⟨HBx.out, A, c, rfl, hc, HRx.out.inRegion HB1.out hr⟩)
  · exact ob_convB ⟨by kernel_rfl, (atS (atS (atS (atS (at0 _ _))))), ⟨_, rfl, by exact (by decide : 11 < 21)⟩, (.inl rfl)⟩ 3 10 xs rfl (by kernel_rfl) rfl rfl rfl
  · exact ob_old ⟨by kernel_rfl, (atS (atS (atS (atS (atS (at0 _ _)))))), ⟨_, rfl, by exact (by decide : 12 < 21)⟩, (.inl rfl)⟩ 1 rfl (by kernel_rfl) (fun w' hr => ⟨HBy.out, B, d, rfl, hd, HRy.out.inRegion HB1.out hr⟩)
  · exact ob_convB ⟨by kernel_rfl, (atS (atS (atS (atS (atS (atS (at0 _ _))))))), ⟨_, rfl, by exact (by decide : 13 < 21)⟩, (.inl rfl)⟩ 5 12 ys rfl (by kernel_rfl) rfl rfl rfl
  · exact ob_eqls ⟨by kernel_rfl, (atS (atS (atS (atS (atS (atS (atS (at0 _ _)))))))), ⟨_, rfl, by exact (by decide : 14 < 21)⟩, (.inl rfl)⟩ 4 6 11 13 xs ys rfl (by kernel_rfl) rfl (by kernel_rfl) rfl rfl rfl rfl HBx.out HBy.out
  · exact ob_eqb ⟨by kernel_rfl, (atS (atS (atS (atS (atS (atS (atS (atS (at0 _ _))))))))), ⟨_, rfl, by exact (by decide : 15 < 21)⟩, (.inl rfl)⟩ 2 7 9 14 _ rfl (by kernel_rfl) rfl (by kernel_rfl) rfl rfl rfl rfl
  · exact ob_move ⟨by kernel_rfl, (atS (atS (atS (atS (atS (atS (atS (atS (atS (at0 _ _)))))))))), ⟨_, rfl, by exact (by decide : 16 < 21)⟩, (.inl rfl)⟩ 8 15 rfl (by kernel_rfl) rfl rfl
  · exact ob_old ⟨by kernel_rfl, (atS (atS (atS (atS (atS (atS (atS (atS (atS (atS (at0 _ _))))))))))), ⟨_, rfl, by exact (by decide : 17 < 21)⟩, (.inr ⟨9, 16, _, rfl, rfl, by kernel_rfl, rfl, by exact (by decide : 16 < 21)⟩)⟩ 0 rfl (by kernel_rfl) (fun w' hr => ⟨HBx.out, A, c, rfl, hc, HRx.out.inRegion HB1.out hr⟩)
  · exact ob_old ⟨by kernel_rfl, (atS (atS (atS (atS (atS (atS (atS (atS (atS (atS (atS (at0 _ _)))))))))))), ⟨_, rfl, by exact (by decide : 18 < 21)⟩, (.inr ⟨9, 16, _, rfl, rfl, by kernel_rfl, rfl, by exact (by decide : 16 < 21)⟩)⟩ 0 rfl (by kernel_rfl) (fun w' hr => ⟨HBx.out, A, c, rfl, hc, HRx.out.inRegion HB1.out hr⟩)
  · exact ob_equal ⟨by kernel_rfl, (atS (atS (atS (atS (atS (atS (atS (atS (atS (atS (atS (atS (at0 _ _))))))))))))), ⟨_, rfl, by exact (by decide : 19 < 21)⟩, (.inr ⟨9, 16, _, rfl, rfl, by kernel_rfl, rfl, by exact (by decide : 16 < 21)⟩)⟩ 10 11 17 18 _ xs xs rfl (by kernel_rfl) rfl (by kernel_rfl) rfl rfl rfl (by simp [kindsE]) hmx
  · exact ob_pick ⟨by kernel_rfl, (atS (atS (atS (atS (atS (atS (atS (atS (atS (atS (atS (atS (atS (at0 _ _)))))))))))))), ⟨_, rfl, by exact (by decide : 20 < 21)⟩, (.inl rfl)⟩ 9 12 16 19 rfl (by kernel_rfl) rfl (by kernel_rfl) rfl rfl rfl rfl
  · exact ob_assign ⟨by kernel_rfl, (atS (atS (atS (atS (atS (atS (atS (atS (atS (atS (atS (atS (atS (atS (at0 _ _))))))))))))))), ⟨_, rfl, by exact (by decide : 4 < 21)⟩, (.inl rfl)⟩ 13 20 rfl (by kernel_rfl) rfl rfl
  · intro a' w' hG hdf hsz hold hr
    have hv : a'.tmps.getD 4 undef = .bool true := hG 14 4 (by exact (by decide : 14 < 15)) rfl
    have HF := Lib.hid (HB1.out.drew.trans (hr.mono (show w.heap.size ≤ w1.heap.size by omega)))
    clear hr hG hold hsz
    go_wp2
    refine bodyPost_ret (results_tmp rfl _ _ _) hdf ⟨?_, HF.out⟩
    rw [hv]
end Go.Proofs.YtfkkpbfoipfekaaDoor
