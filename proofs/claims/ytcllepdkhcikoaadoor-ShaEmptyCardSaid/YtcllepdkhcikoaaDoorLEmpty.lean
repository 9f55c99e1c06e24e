/-
  The walk of the statement ShaEmpty: whatever the parts it returns true, and nothing that was there before has changed.
-/
import Derived.Test.YtcllepdkhcikoaaDoorReg7
namespace Go.Proofs.YtcllepdkhcikoaaDoor
open Go.RowKit
def kindsY (ps : List (List Nat)) (i : Nat) : Kd := ([.parts (wide ps), .row (Sha.sum ps.flatten), .str (Sha.sum ps.flatten), .parts ps, .row (Sha.sum ps.flatten), .str (Sha.sum ps.flatten), .val (.bool true), .val (.bool true),
  .row (Sha.sum []), .str (Sha.sum []), .row (Sha.sum []), .str (Sha.sum []), .val (.bool true), .val (.bool true), .val (.bool true),
  .hash [], .row (Sha.sum []), .str (Sha.sum []), .parts [[]], .row (Sha.sum []), .str (Sha.sum []), .val (.bool true), .val (.bool true), .val (.bool true)] : List Kd).getD i (.val undef)
set_option maxRecDepth 100000
set_option maxHeartbeats 1000000 in
theorem shaEmpty_any (w : World) (A : Option Addr) (c : Nat) (ps : List (List Nat)) (hR : Parts w w.heap.size A ps) (hb : ∀ p ∈ ps, Sha.Bs p) (hI : Iat w) (hK : Kat w) (h2 : 2 ≤ w.heap.size) (hm : ps.length ≤ 9223372036854775807) :
    Calls Tryd.prog 8 #[.slice A ps.length c] w fun e w' => e = .returned (.bool true) ∧ Below w.heap.size w w' := by
  have HR := Lib.hid hR
  have HBs := Lib.hid hb
  have HI := Lib.hid hI
  have HK := Lib.hid hK
  clear hR hb hI hK
  go_enter Tryd.func8, Tryd.ntmps8
  go_wp2_with fail
  refine (anchor_any w HI.out HK.out h2).mono ?_
  rintro e w1 ⟨rfl, hb1⟩
  have HB1 := Lib.hid hb1
  have hz1 := hb1.size
  clear hb1
  by_cases hlen : 20 < ps.length
  · go_wp2
    go_ret
    exact ⟨rfl, HB1.out⟩
  · have hd1 : decide ((20 : Int) < (ps.length : Int)) = false := by simp; omega
    obtain ⟨i0, hi0, hz0, hzz1, hz2⟩ := info_parts Tryd.info22
    go_wp2
    go_loopw [3, 13] (fun v i wr => ∃ (k : Nat) (xs : List Value), k ≤ ps.length ∧ i = .int .i64 k ∧ (ps.take k).flatten.length ≤ 100 * k ∧ w1.heap.size ≤ wr.heap.size ∧ wr.ownsRow w1.heap.size 22 1 v (3 * k) xs ∧ Told w xs (wide (ps.take k)) ∧ Below w.heap.size w wr) (fun _ i _ => ps.length - (intOf i).toNat)
    case atStart => exact ⟨0, [], by omega, rfl, by simp, Nat.le_refl _, ⟨rfl, .inl ⟨rfl, rfl⟩⟩, trivial, HB1.out⟩
    case round =>
      obtain ⟨k, xs, hk, rfl, hle, hzr, hown, htold, hbel⟩ := hrel
      clear HB1
      have hsz := hbel.size
      have HO := Lib.hid hown
      have HT := Lib.hid htold
      have HB := Lib.hid hbel
      clear hown htold hbel
      by_cases hlt : k < ps.length
      · obtain ⟨ad, Ai, ci, rfl, hadb, hcell, hci, hrd⟩ := HR.out k hlt
        have hc : wr.cell? (ad.add k) = some (.slice Ai (ps.getD k []).length ci) := (HB.out.cell (by rw [block_add]; exact hadb)).trans hcell
        have HRd := Lib.hid hrd
        have HN : Hid ((ps.take (k + 1)).flatten = (ps.take k).flatten ++ ps.getD k []) := Lib.hid (take_flat ps k hlt)
        have HW : Hid (wide (ps.take (k + 1)) = wide (ps.take k) ++ [[], ps.getD k [], []]) := Lib.hid (wide_take ps k hlt)
        clear hcell hrd
        generalize ps.getD k [] = pk at *
        by_cases hpl : 100 < pk.length
        · go_wp2
          go_ret
          exact ⟨rfl, HB.out⟩
        · have hd2 : decide ((100 : Int) < (pk.length : Int)) = false := by simp; omega
          go_wp2_with (at_builtin; refine wpList_append_own _ rfl _ _ 27 rfl w1.heap.size 22 i0 _ 1 24 Tryd.underlying27 hi0 hz0 hzz1 hz2 rfl (by decide) _ (3 * k) xs rfl ((HO.out.alloc _).alloc _) ⟨wr.heap.size + 1, 0, none⟩ 3 3 [.slice none 0 0, .slice Ai pk.length ci, .slice (some ⟨wr.heap.size, 0, none⟩) 0 0] rfl rfl ?c1 ?c2 ?c3 (by omega) ?c5 ?_)
          case c1 =>
            have := row_cells (wr.alloc (.cells #[] 5)) 22 [.slice none 0 0, .slice Ai pk.length ci, .slice (some ⟨wr.heap.size, 0, none⟩) 0 0]
            rw [show (wr.alloc (.cells #[] 5)).heap.size = wr.heap.size + 1 by simp] at this
            exact this
          case c2 =>
            intro u hu
            simp only [List.mem_cons, List.not_mem_nil, or_false] at hu
            rcases hu with rfl | rfl | rfl <;> rfl
          case c3 => unfold maxLen; omega
          case c5 => simp; omega
          intro v3 w3 hown3 hgrow3 _
          have hrow := ownB HO.out
          have HO3 : Hid (w3.ownsRow w1.heap.size 22 1 v3 (3 * (k + 1)) (xs ++ [.slice none 0 0, .slice Ai pk.length ci, .slice (some ⟨wr.heap.size, 0, none⟩) 0 0])) := Lib.hid hown3
          have HT3 : Hid (Told w (xs ++ [.slice none 0 0, .slice Ai pk.length ci, .slice (some ⟨wr.heap.size, 0, none⟩) 0 0]) (wide (ps.take (k + 1)))) := Lib.hid (by
            rw [HW.out]
            exact HT.out.append ⟨⟨none, 0, rfl, Nat.le_refl _, nothing_rd w _⟩, ⟨Ai, ci, rfl, hci, HRd.out⟩, ⟨_, 0, rfl, Nat.le_refl _, nothing_rd w _⟩, trivial⟩)
          have HB3 : Hid (Below w.heap.size w w3) := Lib.hid (((HB.out.alloc hsz _).alloc (by simp; omega) _).grown hgrow3 (by simp; omega) (fun j hj => by have := hrow j hj; omega))
          have hz3 : w1.heap.size ≤ w3.heap.size := by have := hgrow3.size; simp at this; omega
          have hle3 : (ps.take (k + 1)).flatten.length ≤ 100 * (k + 1) := by rw [HN.out, List.length_append]; omega
          clear hown3 hgrow3 hrow
          go_wp2
          go_roundw
          case rel => exact ⟨k + 1, _, by omega, by go_num, hle3, hz3, HO3.out, HT3.out, HB3.out⟩
          case measure => simp [intOf]; omega
      · obtain rfl : k = ps.length := by omega
        rw [List.take_length] at HT hle
        obtain ⟨X, cx, hv, hX⟩ := parts_own HB.out (by rw [wide_length]; exact HO.out) HT.out
        subst hv
        have HX := Lib.hid hX
        clear hX HO HT
        have hfl := wide_flat ps
        go_upto_region 13 with (fail)
        have hC : Cx wr.drew := ⟨HI.out.below HB.out.drew (by omega), HK.out.below HB.out.drew h2, by show 2 ≤ wr.heap.size; omega⟩
        have HC := Lib.hid hC
        clear hC
        refine region_inv (Rw wr.drew) (fun i => (kindsY ps i).is) (by kernel_rfl) (by kernel_rfl) (Below.refl _ _) ⟨?_, ?_, ?_, ?_, ?_, ?_, ?_, ?_, ?_, ?_, ?_, ?_, ?_, ?_, ?_, ?_, ?_, ?_, ?_, ?_, ?_, ?_, ?_, ?_, trivial⟩ ?_
        · exact ob_old ⟨by kernel_rfl, (at0 _ _), ⟨_, rfl, by exact (by decide : 26 < 49)⟩, (.inl rfl)⟩ 3 rfl (by kernel_rfl) (fun w' hr => ⟨wide_Bs HBs.out, X, cx, rfl, HX.out.below (Below.trans ((Below.refl wr.heap.size wr).drew) hr) hr.size⟩)
        · exact ob_sum ⟨by kernel_rfl, (atS (at0 _ _)), ⟨_, rfl, by exact (by decide : 27 < 49)⟩, (.inl rfl)⟩ (.tmp 26) _ (wide ps) rfl (fun _ _ _ h hd => h.opd (j := 0) hd (by kernel_rfl) rfl) (by rw [hfl]; rfl) HC.out (by rw [wide_length]; omega) (by rw [hfl]; omega)
        · exact ob_conv ⟨by kernel_rfl, (atS (atS (at0 _ _))), ⟨_, rfl, by exact (by decide : 28 < 49)⟩, (.inl rfl)⟩ 1 27 (Sha.sum ps.flatten) rfl (by kernel_rfl) rfl rfl rfl (by rw [Sha.sum_length]; decide)
        · exact ob_old ⟨by kernel_rfl, (atS (atS (atS (at0 _ _)))), ⟨_, rfl, by exact (by decide : 29 < 49)⟩, (.inl rfl)⟩ 0 rfl (by kernel_rfl) (fun w' hr => ⟨HBs.out, A, c, rfl, (HR.out.below HB.out hsz).below (Below.trans ((Below.refl wr.heap.size wr).drew) hr) hr.size⟩)
        · exact ob_sum ⟨by kernel_rfl, (atS (atS (atS (atS (at0 _ _))))), ⟨_, rfl, by exact (by decide : 30 < 49)⟩, (.inl rfl)⟩ (.tmp 29) _ ps rfl (fun _ _ _ h hd => h.opd (j := 3) hd (by kernel_rfl) rfl) rfl HC.out (by omega) (by omega)
        · exact ob_conv ⟨by kernel_rfl, (atS (atS (atS (atS (atS (at0 _ _)))))), ⟨_, rfl, by exact (by decide : 31 < 49)⟩, (.inl rfl)⟩ 4 30 (Sha.sum ps.flatten) rfl (by kernel_rfl) rfl rfl rfl (by rw [Sha.sum_length]; decide)
        · exact ob_eql ⟨by kernel_rfl, (atS (atS (atS (atS (atS (atS (at0 _ _))))))), ⟨_, rfl, by exact (by decide : 32 < 49)⟩, (.inl rfl)⟩ 2 5 28 31 (Sha.sum ps.flatten) rfl (by kernel_rfl) rfl (by kernel_rfl) rfl rfl rfl rfl
        · exact ob_move ⟨by kernel_rfl, (atS (atS (atS (atS (atS (atS (atS (at0 _ _)))))))), ⟨_, rfl, by exact (by decide : 33 < 49)⟩, (.inl rfl)⟩ 6 32 rfl (by kernel_rfl) rfl rfl
        · exact ob_sum ⟨by kernel_rfl, (atS (atS (atS (atS (atS (atS (atS (atS (at0 _ _))))))))), ⟨_, rfl, by exact (by decide : 34 < 49)⟩, (.inr ⟨7, 33, rfl, rfl, by kernel_rfl, rfl, by exact (by decide : 33 < 49)⟩)⟩ (.const (.slice none 0 0)) _ [] rfl (fun _ _ w' _ _ => parts_nil w') rfl HC.out (by simp) (by simp)
        · exact ob_conv ⟨by kernel_rfl, (atS (atS (atS (atS (atS (atS (atS (atS (atS (at0 _ _)))))))))), ⟨_, rfl, by exact (by decide : 35 < 49)⟩, (.inr ⟨7, 33, rfl, rfl, by kernel_rfl, rfl, by exact (by decide : 33 < 49)⟩)⟩ 8 34 (Sha.sum []) rfl (by kernel_rfl) rfl rfl rfl (by rw [Sha.sum_length]; decide)
        · exact ob_ref ⟨by kernel_rfl, (atS (atS (atS (atS (atS (atS (atS (atS (atS (atS (at0 _ _))))))))))), ⟨_, rfl, by exact (by decide : 36 < 49)⟩, (.inr ⟨7, 33, rfl, rfl, by kernel_rfl, rfl, by exact (by decide : 33 < 49)⟩)⟩ (.const (.slice none 0 0)) _ none 0 [] rfl (fun _ _ _ _ _ => rfl) rfl (fun _ => rfl) (fun w' _ => nothing_rd w' _) (fun x hx => by cases hx) (by simp)
        · exact ob_conv ⟨by kernel_rfl, (atS (atS (atS (atS (atS (atS (atS (atS (atS (atS (atS (at0 _ _)))))))))))), ⟨_, rfl, by exact (by decide : 37 < 49)⟩, (.inr ⟨7, 33, rfl, rfl, by kernel_rfl, rfl, by exact (by decide : 33 < 49)⟩)⟩ 10 36 (Sha.sum []) rfl (by kernel_rfl) rfl rfl rfl (by rw [Sha.sum_length]; decide)
        · exact ob_eql ⟨by kernel_rfl, (atS (atS (atS (atS (atS (atS (atS (atS (atS (atS (atS (atS (at0 _ _))))))))))))), ⟨_, rfl, by exact (by decide : 38 < 49)⟩, (.inr ⟨7, 33, rfl, rfl, by kernel_rfl, rfl, by exact (by decide : 33 < 49)⟩)⟩ 9 11 35 37 (Sha.sum []) rfl (by kernel_rfl) rfl (by kernel_rfl) rfl rfl rfl rfl
        · exact ob_pick ⟨by kernel_rfl, (atS (atS (atS (atS (atS (atS (atS (atS (atS (atS (atS (atS (atS (at0 _ _)))))))))))))), ⟨_, rfl, by exact (by decide : 39 < 49)⟩, (.inl rfl)⟩ 7 12 33 38 rfl (by kernel_rfl) rfl (by kernel_rfl) rfl rfl rfl rfl
        · exact ob_move ⟨by kernel_rfl, (atS (atS (atS (atS (atS (atS (atS (atS (atS (atS (atS (atS (atS (atS (at0 _ _))))))))))))))), ⟨_, rfl, by exact (by decide : 40 < 49)⟩, (.inl rfl)⟩ 13 39 rfl (by kernel_rfl) rfl rfl
        · exact ob_new ⟨by kernel_rfl, (atS (atS (atS (atS (atS (atS (atS (atS (atS (atS (atS (atS (atS (atS (atS (at0 _ _)))))))))))))))), ⟨_, rfl, by exact (by decide : 41 < 49)⟩, (.inr ⟨14, 40, rfl, rfl, by kernel_rfl, rfl, by exact (by decide : 40 < 49)⟩)⟩ _ rfl rfl HC.out
        · exact ob_hsum ⟨by kernel_rfl, (atS (atS (atS (atS (atS (atS (atS (atS (atS (atS (atS (atS (atS (atS (atS (atS (at0 _ _))))))))))))))))), ⟨_, rfl, by exact (by decide : 42 < 49)⟩, (.inr ⟨14, 40, rfl, rfl, by kernel_rfl, rfl, by exact (by decide : 40 < 49)⟩)⟩ 15 41 _ [] rfl (by kernel_rfl) rfl rfl rfl HC.out (by simp)
        · exact ob_conv ⟨by kernel_rfl, (atS (atS (atS (atS (atS (atS (atS (atS (atS (atS (atS (atS (atS (atS (atS (atS (atS (at0 _ _)))))))))))))))))), ⟨_, rfl, by exact (by decide : 43 < 49)⟩, (.inr ⟨14, 40, rfl, rfl, by kernel_rfl, rfl, by exact (by decide : 40 < 49)⟩)⟩ 16 42 (Sha.sum []) rfl (by kernel_rfl) rfl rfl rfl (by rw [Sha.sum_length]; decide)
        · exact ob_build0 ⟨by kernel_rfl, (atS (atS (atS (atS (atS (atS (atS (atS (atS (atS (atS (atS (atS (atS (atS (atS (atS (atS (at0 _ _))))))))))))))))))), ⟨_, rfl, by exact (by decide : 44 < 49)⟩, (.inr ⟨14, 40, rfl, rfl, by kernel_rfl, rfl, by exact (by decide : 40 < 49)⟩)⟩ rfl rfl
        · exact ob_sum ⟨by kernel_rfl, (atS (atS (atS (atS (atS (atS (atS (atS (atS (atS (atS (atS (atS (atS (atS (atS (atS (atS (atS (at0 _ _)))))))))))))))))))), ⟨_, rfl, by exact (by decide : 45 < 49)⟩, (.inr ⟨14, 40, rfl, rfl, by kernel_rfl, rfl, by exact (by decide : 40 < 49)⟩)⟩ (.tmp 44) _ [[]] rfl (fun _ _ _ h hd => h.opd (j := 18) hd (by kernel_rfl) rfl) rfl HC.out (by simp) (by simp)
        · exact ob_conv ⟨by kernel_rfl, (atS (atS (atS (atS (atS (atS (atS (atS (atS (atS (atS (atS (atS (atS (atS (atS (atS (atS (atS (atS (at0 _ _))))))))))))))))))))), ⟨_, rfl, by exact (by decide : 46 < 49)⟩, (.inr ⟨14, 40, rfl, rfl, by kernel_rfl, rfl, by exact (by decide : 40 < 49)⟩)⟩ 19 45 (Sha.sum []) rfl (by kernel_rfl) rfl rfl rfl (by rw [Sha.sum_length]; decide)
        · exact ob_eql ⟨by kernel_rfl, (atS (atS (atS (atS (atS (atS (atS (atS (atS (atS (atS (atS (atS (atS (atS (atS (atS (atS (atS (atS (atS (at0 _ _)))))))))))))))))))))), ⟨_, rfl, by exact (by decide : 47 < 49)⟩, (.inr ⟨14, 40, rfl, rfl, by kernel_rfl, rfl, by exact (by decide : 40 < 49)⟩)⟩ 17 20 43 46 (Sha.sum []) rfl (by kernel_rfl) rfl (by kernel_rfl) rfl rfl rfl rfl
        · exact ob_pick ⟨by kernel_rfl, (atS (atS (atS (atS (atS (atS (atS (atS (atS (atS (atS (atS (atS (atS (atS (atS (atS (atS (atS (atS (atS (atS (at0 _ _))))))))))))))))))))))), ⟨_, rfl, by exact (by decide : 48 < 49)⟩, (.inl rfl)⟩ 14 21 40 47 rfl (by kernel_rfl) rfl (by kernel_rfl) rfl rfl rfl rfl
        · exact ob_assign ⟨by kernel_rfl, (atS (atS (atS (atS (atS (atS (atS (atS (atS (atS (atS (atS (atS (atS (atS (atS (atS (atS (atS (atS (atS (atS (atS (at0 _ _)))))))))))))))))))))))), ⟨_, rfl, by exact (by decide : 2 < 49)⟩, (.inl rfl)⟩ 22 48 rfl (by kernel_rfl) rfl rfl
        · intro a' w' hG hdf hsz' hold hr
          have hv : a'.tmps.getD 2 undef = .bool true := hG 23 2 (by exact (by decide : 23 < 24)) rfl
          have HF := Lib.hid (HB.out.drew.trans (hr.mono (show w.heap.size ≤ wr.heap.size from hsz)))
          clear hr hG hold hsz'
          go_wp2
          refine bodyPost_ret (results_tmp rfl _ _ _) hdf ⟨?_, HF.out⟩
          rw [hv]
end Go.Proofs.YtcllepdkhcikoaaDoor
