/-
  The walk of the statement MacSpreads: whatever the bytes and the numbers it returns true, and nothing that was there before has changed.
-/
import Derived.Test.YtfkkpbfoipfekaaDoorReg9
namespace Go.Proofs.YtfkkpbfoipfekaaDoor
open Go.RowKit
def kindsS8 (A B : Option Addr) (c d : Nat) (key info : List Nat) (N : Nat) (i : Nat) : Kd := ([.val (.int .i64 0), .val (.bool false), .val (.bool false), .bytes (spreadTo key info N), .str (spreadTo key info N), .val (.slice A key.length c), .val (.slice B info.length d), .val (.int .i64 (N : Int)), .bytes (spreadTo key info N), .str (spreadTo key info N), .val (.bool false), .val (.bool false)] : List Kd).getD i (.val undef)
def kindsS13 (key info : List Nat) (N M : Nat) (i : Nat) : Kd := ([.val (.int .i64 0), .val (.bool true), .val (.bool true), .bytes (spreadTo key info M), .str (spreadTo key info M), .bytes (spreadTo key info N), .val (.int .i64 (M : Int)), .bytes (spreadTo key info M), .str (spreadTo key info M), .val (.bool true), .val (.bool true), .val (.bool true)] : List Kd).getD i (.val undef)
set_option maxRecDepth 100000
set_option maxHeartbeats 1000000 in
theorem macSpreads_any (w : World) (A B : Option Addr) (c d : Nat) (key info : List Nat) (n f : Int) (hRk : RdB w w.heap.size A key) (hRi : RdB w w.heap.size B info) (hAc : A = none → c = 0) (hBd : B = none → d = 0) (hc : key.length ≤ c) (hd : info.length ≤ d) (hbk : Sha.Bs key) (hbi : Sha.Bs info) (hI : Iat w) (hK : Kat w) (h2 : 2 ≤ w.heap.size) :
    Calls Tryd.prog 5 #[.slice A key.length c, .slice B info.length d, .int .i64 n, .int .i64 f] w fun e w' => e = .returned (.bool true) ∧ Below w.heap.size w w' := by
  have HRk := Lib.hid hRk
  have HRi := Lib.hid hRi
  have HBk := Lib.hid hbk
  have HBi := Lib.hid hbi
  have HI := Lib.hid hI
  have HK := Lib.hid hK
  have HAc := Lib.hid hAc
  have HBd := Lib.hid hBd
  clear hRk hRi hbk hbi hI hK hAc hBd
  go_enter Tryd.func5, Tryd.ntmps5
  go_wp2_with fail
  refine (anchor_any w HI.out HK.out h2).mono ?_
  rintro e w1 ⟨rfl, hb1⟩
  have HB1 := Lib.hid hb1
  have hz1 := hb1.size
  clear hb1
  by_cases hl1 : 100 < key.length
  · have hd1 : decide ((100 : Int) < (key.length : Int)) = true := by simp; omega
    go_wp2
    go_ret
    exact ⟨rfl, HB1.out⟩
  have hd1 : decide ((100 : Int) < (key.length : Int)) = false := by simp; omega
  by_cases hl2 : 100 < info.length
  · have hd2 : decide ((100 : Int) < (info.length : Int)) = true := by simp; omega
    go_wp2
    go_ret
    exact ⟨rfl, HB1.out⟩
  have hd2 : decide ((100 : Int) < (info.length : Int)) = false := by simp; omega
  by_cases hbad : n < 0 ∨ 8160 < n
  · by_cases hn0 : n < 0
    · have hd3 : decide (200 < n) = false := by simp; omega
      have hd4 : decide (n < 0) = true := by simp; omega
      go_wp2_with fail
      refine (expand_bad w1 A B _ _ c d n hbad).mono ?_
      rintro e w2 ⟨rfl, hb2⟩
      have HB2 := Lib.hid (HB1.out.trans (hb2.mono hz1))
      clear hb2 HB1
      go_wp2
      go_ret
      exact ⟨rfl, HB2.out⟩
    · have hd3 : decide (200 < n) = true := by simp; omega
      have hd4 : decide (n < 0) = false := by simp; omega
      have hd5 : decide (n ≤ 8160) = false := by simp; omega
      have hd6 : decide (8160 < n) = true := by simp; omega
      go_wp2_with fail
      refine (expand_bad w1 A B _ _ c d n hbad).mono ?_
      rintro e w2 ⟨rfl, hb2⟩
      have HB2 := Lib.hid (HB1.out.trans (hb2.mono hz1))
      clear hb2 HB1
      go_wp2
      go_ret
      exact ⟨rfl, HB2.out⟩
  by_cases hl3 : 200 < n
  · have hd3 : decide (200 < n) = true := by simp; omega
    have hd4 : decide (n ≤ 8160) = true := by simp; omega
    go_wp2
    go_ret
    exact ⟨rfl, HB1.out⟩
  have hd3 : decide (200 < n) = false := by simp; omega
  have hd4 : decide (n < 0) = false := by simp; omega
  have hd5 : decide (8160 < n) = false := by simp; omega
  obtain ⟨N, rfl⟩ : ∃ N : Nat, n = (N : Int) := ⟨n.toNat, by omega⟩
  have hN : N ≤ 200 := by omega
  go_wp2_with fail
  refine (expand_any w1 A B c d key info N (by omega) ((HRk.out.below HB1.out).more hz1) HAc.out hc HBk.out ((HRi.out.below HB1.out).more hz1) hd HBi.out (HI.out.below HB1.out (by omega)) (HK.out.below HB1.out h2) (by omega) (by omega) (by omega)).mono ?_
  rintro e w2 ⟨X, cx, rfl, hXr, hcx, hXn, hb2⟩
  have HB2 := Lib.hid (HB1.out.trans (hb2.mono hz1))
  have hz2 : w.heap.size ≤ w2.heap.size := HB2.out.size
  have HXr := Lib.hid hXr
  have HRk2 : Hid (RdB w2 w2.heap.size A key) := Lib.hid ((HRk.out.below HB2.out).more hz2)
  have HRi2 : Hid (RdB w2 w2.heap.size B info) := Lib.hid ((HRi.out.below HB2.out).more hz2)
  clear hb2 HB1 hXr hXn
  go_upto_region 8 with (fail)
  refine region_inv (Rw w2.drew) (fun i => (kindsS8 A B c d key info N i).is) (by kernel_rfl) (by kernel_rfl) (Below.refl _ _) ⟨?_, ?_, ?_, ?_, ?_, ?_, ?_, ?_, ?_, ?_, ?_, ?_, trivial⟩ ?_
  · exact ob_old ⟨by kernel_rfl, (at0 _ _), ⟨_, rfl, by exact (by decide : 51 < 88)⟩, (.inl rfl)⟩ 10 rfl (by kernel_rfl) (fun w' hr => rfl)
  · exact ob_neqerr ⟨by kernel_rfl, (atS (at0 _ _)), ⟨_, rfl, by exact (by decide : 52 < 88)⟩, (.inl rfl)⟩ 0 51 0 rfl (by kernel_rfl) rfl rfl rfl
  · exact ob_move ⟨by kernel_rfl, (atS (atS (at0 _ _))), ⟨_, rfl, by exact (by decide : 53 < 88)⟩, (.inl rfl)⟩ 1 52 rfl (by kernel_rfl) rfl rfl
  · exact ob_old ⟨by kernel_rfl, (atS (atS (atS (at0 _ _)))), ⟨_, rfl, by exact (by decide : 54 < 88)⟩, (.inr ⟨2, 53, _, rfl, rfl, by kernel_rfl, rfl, by exact (by decide : 53 < 88)⟩)⟩ 9 rfl (by kernel_rfl) (fun w' hr => ⟨spreadTo_Bs _ _ _, X, cx, congrArg (fun n => Value.slice X n cx) (spreadTo_length key info N).symm, by rw [spreadTo_length]; exact hcx, HXr.out.inRegion (Below.refl _ _) hr⟩)
  · exact ob_convB ⟨by kernel_rfl, (atS (atS (atS (atS (at0 _ _))))), ⟨_, rfl, by exact (by decide : 55 < 88)⟩, (.inr ⟨2, 53, _, rfl, rfl, by kernel_rfl, rfl, by exact (by decide : 53 < 88)⟩)⟩ 3 54 (spreadTo key info N) rfl (by kernel_rfl) rfl rfl rfl
  · exact ob_old ⟨by kernel_rfl, (atS (atS (atS (atS (atS (at0 _ _)))))), ⟨_, rfl, by exact (by decide : 56 < 88)⟩, (.inr ⟨2, 53, _, rfl, rfl, by kernel_rfl, rfl, by exact (by decide : 53 < 88)⟩)⟩ 0 rfl (by kernel_rfl) (fun w' hr => rfl)
  · exact ob_old ⟨by kernel_rfl, (atS (atS (atS (atS (atS (atS (at0 _ _))))))), ⟨_, rfl, by exact (by decide : 57 < 88)⟩, (.inr ⟨2, 53, _, rfl, rfl, by kernel_rfl, rfl, by exact (by decide : 53 < 88)⟩)⟩ 1 rfl (by kernel_rfl) (fun w' hr => rfl)
  · exact ob_old ⟨by kernel_rfl, (atS (atS (atS (atS (atS (atS (atS (at0 _ _)))))))), ⟨_, rfl, by exact (by decide : 58 < 88)⟩, (.inr ⟨2, 53, _, rfl, rfl, by kernel_rfl, rfl, by exact (by decide : 53 < 88)⟩)⟩ 2 rfl (by kernel_rfl) (fun w' hr => rfl)
  · exact ob_rexpand ⟨by kernel_rfl, (atS (atS (atS (atS (atS (atS (atS (atS (at0 _ _))))))))), ⟨_, rfl, by exact (by decide : 59 < 88)⟩, (.inr ⟨2, 53, _, rfl, rfl, by kernel_rfl, rfl, by exact (by decide : 53 < 88)⟩)⟩ (.tmp 56) (.tmp 57) (.tmp 58) _ key info N rfl (fun _ _ w' h hd => ⟨A, c, h.opd (j := 5) hd (by kernel_rfl) rfl, HRk2.out.inRegion (Below.refl _ _) h.world, HAc.out⟩) (fun _ _ w' h hd => ⟨B, d, h.opd (j := 6) hd (by kernel_rfl) rfl, HRi2.out.inRegion (Below.refl _ _) h.world, HBd.out⟩) (fun _ _ w' h hd => h.opd (j := 7) hd (by kernel_rfl) rfl) rfl HBk.out (by omega) HBi.out (by omega) (by omega)
  · exact ob_convB ⟨by kernel_rfl, (atS (atS (atS (atS (atS (atS (atS (atS (atS (at0 _ _)))))))))), ⟨_, rfl, by exact (by decide : 60 < 88)⟩, (.inr ⟨2, 53, _, rfl, rfl, by kernel_rfl, rfl, by exact (by decide : 53 < 88)⟩)⟩ 8 59 (spreadTo key info N) rfl (by kernel_rfl) rfl rfl rfl
  · exact ob_neq ⟨by kernel_rfl, (atS (atS (atS (atS (atS (atS (atS (atS (atS (atS (at0 _ _))))))))))), ⟨_, rfl, by exact (by decide : 61 < 88)⟩, (.inr ⟨2, 53, _, rfl, rfl, by kernel_rfl, rfl, by exact (by decide : 53 < 88)⟩)⟩ 4 9 55 60 (spreadTo key info N) rfl (by kernel_rfl) rfl (by kernel_rfl) rfl rfl rfl rfl
  · exact ob_pickF ⟨by kernel_rfl, (atS (atS (atS (atS (atS (atS (atS (atS (atS (atS (atS (at0 _ _)))))))))))), ⟨_, rfl, by exact (by decide : 62 < 88)⟩, (.inl rfl)⟩ 2 10 53 61 rfl (by kernel_rfl) rfl (by kernel_rfl) rfl rfl rfl rfl
  intro a' w3 hG hdf hsz hold hr
  have hv : a'.tmps.getD 62 undef = .bool false := hG 11 62 (by exact (by decide : 11 < 12)) rfl
  have he := act_eq [51, 52, 53, 54, 55, 56, 57, 58, 59, 60, 61, 62] (by kernel_rfl) hdf hsz hold
  have hb3 : Below w2.heap.size w2 w3 := Below.trans ((Below.refl w2.heap.size w2).drew) hr
  simp only [List.foldl_cons, List.foldl_nil] at he
  rw [hv] at he
  generalize a'.tmps.getD 51 undef = q51 at he; generalize a'.tmps.getD 52 undef = q52 at he; generalize a'.tmps.getD 53 undef = q53 at he; generalize a'.tmps.getD 54 undef = q54 at he; generalize a'.tmps.getD 55 undef = q55 at he; generalize a'.tmps.getD 56 undef = q56 at he; generalize a'.tmps.getD 57 undef = q57 at he; generalize a'.tmps.getD 58 undef = q58 at he; generalize a'.tmps.getD 59 undef = q59 at he; generalize a'.tmps.getD 60 undef = q60 at he; generalize a'.tmps.getD 61 undef = q61 at he
  clear hG hdf hsz hold hr hv
  subst he
  have HXr3 : Hid (RdB w3 w3.heap.size X (spreadTo key info N)) := Lib.hid ((HXr.out.below hb3).more hb3.size)
  have HB3 : Hid (Below w.heap.size w w3) := Lib.hid (HB2.out.trans (hb3.mono hz2))
  have hz3 : w.heap.size ≤ w3.heap.size := HB3.out.size
  clear hb3 HXr HB2 HRk2 HRi2
  simp only [Act.put, List.setIfInBounds_toArray, List.set_cons_succ, List.set_cons_zero]
  by_cases hf0 : f < 0
  · have hd6 : decide (f < 0) = true := by simp; omega
    go_wp2
    go_ret
    exact ⟨rfl, HB3.out⟩
  have hd6 : decide (f < 0) = false := by simp; omega
  by_cases hf1 : (N : Int) < f
  · have hd7 : decide ((N : Int) < f) = true := by simp; omega
    go_wp2
    go_ret
    exact ⟨rfl, HB3.out⟩
  have hd7 : decide ((N : Int) < f) = false := by simp; omega
  obtain ⟨M, rfl⟩ : ∃ M : Nat, f = (M : Int) := ⟨f.toNat, by omega⟩
  have hM : M ≤ N := by omega
  go_wp2_with fail
  refine (expand_any w3 A B c d key info M (by omega) ((HRk.out.below HB3.out).more hz3) HAc.out hc HBk.out ((HRi.out.below HB3.out).more hz3) hd HBi.out (HI.out.below HB3.out (by omega)) (HK.out.below HB3.out h2) (by omega) (by omega) (by omega)).mono ?_
  rintro e w4 ⟨Y, cy, rfl, hYr, hcy, hYn, hb4⟩
  have HB4 := Lib.hid (HB3.out.trans (hb4.mono hz3))
  have hz4 : w.heap.size ≤ w4.heap.size := HB4.out.size
  have HYr := Lib.hid hYr
  have HXr4 : Hid (RdB w4 w4.heap.size X (spreadTo key info N)) := Lib.hid ((HXr3.out.below hb4).more hb4.size)
  clear hb4 HB3 HXr3 hYr hYn
  go_upto_region 13 with (fail)
  refine region_inv (Rw w4.drew) (fun i => (kindsS13 key info N M i).is) (by kernel_rfl) (by kernel_rfl) (Below.refl _ _) ⟨?_, ?_, ?_, ?_, ?_, ?_, ?_, ?_, ?_, ?_, ?_, ?_, trivial⟩ ?_
  · exact ob_old ⟨by kernel_rfl, (at0 _ _), ⟨_, rfl, by exact (by decide : 77 < 88)⟩, (.inl rfl)⟩ 12 rfl (by kernel_rfl) (fun w' hr => rfl)
  · exact ob_eqlerr ⟨by kernel_rfl, (atS (at0 _ _)), ⟨_, rfl, by exact (by decide : 78 < 88)⟩, (.inl rfl)⟩ 0 77 0 rfl (by kernel_rfl) rfl rfl rfl
  · exact ob_move ⟨by kernel_rfl, (atS (atS (at0 _ _))), ⟨_, rfl, by exact (by decide : 79 < 88)⟩, (.inl rfl)⟩ 1 78 rfl (by kernel_rfl) rfl rfl
  · exact ob_old ⟨by kernel_rfl, (atS (atS (atS (at0 _ _)))), ⟨_, rfl, by exact (by decide : 80 < 88)⟩, (.inr ⟨2, 79, _, rfl, rfl, by kernel_rfl, rfl, by exact (by decide : 79 < 88)⟩)⟩ 11 rfl (by kernel_rfl) (fun w' hr => ⟨spreadTo_Bs _ _ _, Y, cy, congrArg (fun n => Value.slice Y n cy) (spreadTo_length key info M).symm, by rw [spreadTo_length]; exact hcy, HYr.out.inRegion (Below.refl _ _) hr⟩)
  · exact ob_convB ⟨by kernel_rfl, (atS (atS (atS (atS (at0 _ _))))), ⟨_, rfl, by exact (by decide : 81 < 88)⟩, (.inr ⟨2, 79, _, rfl, rfl, by kernel_rfl, rfl, by exact (by decide : 79 < 88)⟩)⟩ 3 80 (spreadTo key info M) rfl (by kernel_rfl) rfl rfl rfl
  · exact ob_old ⟨by kernel_rfl, (atS (atS (atS (atS (atS (at0 _ _)))))), ⟨_, rfl, by exact (by decide : 82 < 88)⟩, (.inr ⟨2, 79, _, rfl, rfl, by kernel_rfl, rfl, by exact (by decide : 79 < 88)⟩)⟩ 9 rfl (by kernel_rfl) (fun w' hr => ⟨spreadTo_Bs _ _ _, X, cx, congrArg (fun n => Value.slice X n cx) (spreadTo_length key info N).symm, by rw [spreadTo_length]; exact hcx, HXr4.out.inRegion (Below.refl _ _) hr⟩)
  · exact ob_old ⟨by kernel_rfl, (atS (atS (atS (atS (atS (atS (at0 _ _))))))), ⟨_, rfl, by exact (by decide : 83 < 88)⟩, (.inr ⟨2, 79, _, rfl, rfl, by kernel_rfl, rfl, by exact (by decide : 79 < 88)⟩)⟩ 3 rfl (by kernel_rfl) (fun w' hr => rfl)
  · exact ob_head ⟨by kernel_rfl, (atS (atS (atS (atS (atS (atS (atS (at0 _ _)))))))), ⟨_, rfl, by exact (by decide : 84 < 88)⟩, (.inr ⟨2, 79, _, rfl, rfl, by kernel_rfl, rfl, by exact (by decide : 79 < 88)⟩)⟩ 5 6 82 83 (spreadTo key info N) M rfl (by kernel_rfl) rfl (by kernel_rfl) rfl rfl rfl (by rw [spreadTo_take key info M N (by omega)]; rfl) (by rw [spreadTo_length]; omega)
  · exact ob_convB ⟨by kernel_rfl, (atS (atS (atS (atS (atS (atS (atS (atS (at0 _ _))))))))), ⟨_, rfl, by exact (by decide : 85 < 88)⟩, (.inr ⟨2, 79, _, rfl, rfl, by kernel_rfl, rfl, by exact (by decide : 79 < 88)⟩)⟩ 7 84 (spreadTo key info M) rfl (by kernel_rfl) rfl rfl rfl
  · exact ob_eql ⟨by kernel_rfl, (atS (atS (atS (atS (atS (atS (atS (atS (atS (at0 _ _)))))))))), ⟨_, rfl, by exact (by decide : 86 < 88)⟩, (.inr ⟨2, 79, _, rfl, rfl, by kernel_rfl, rfl, by exact (by decide : 79 < 88)⟩)⟩ 4 8 81 85 (spreadTo key info M) rfl (by kernel_rfl) rfl (by kernel_rfl) rfl rfl rfl rfl
  · exact ob_pick ⟨by kernel_rfl, (atS (atS (atS (atS (atS (atS (atS (atS (atS (atS (at0 _ _))))))))))), ⟨_, rfl, by exact (by decide : 87 < 88)⟩, (.inl rfl)⟩ 2 9 79 86 rfl (by kernel_rfl) rfl (by kernel_rfl) rfl rfl rfl rfl
  · exact ob_assign ⟨by kernel_rfl, (atS (atS (atS (atS (atS (atS (atS (atS (atS (atS (atS (at0 _ _)))))))))))), ⟨_, rfl, by exact (by decide : 8 < 88)⟩, (.inl rfl)⟩ 10 87 rfl (by kernel_rfl) rfl rfl
  · intro a' w' hG hdf hsz hold hr
    have hv : a'.tmps.getD 8 undef = .bool true := hG 11 8 (by exact (by decide : 11 < 12)) rfl
    have HF := Lib.hid (HB4.out.drew.trans (hr.mono (show w.heap.size ≤ w4.heap.size from hz4)))
    clear hr hG hold hsz
    go_wp2
    refine bodyPost_ret (results_tmp rfl _ _ _) hdf ⟨?_, HF.out⟩
    rw [hv]
end Go.Proofs.YtfkkpbfoipfekaaDoor
