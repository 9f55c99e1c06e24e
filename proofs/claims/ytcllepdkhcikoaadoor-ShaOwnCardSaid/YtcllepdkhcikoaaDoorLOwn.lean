/-
  The walk of the statement ShaOwn: whatever the bytes it returns true, and nothing that was there before has changed.
-/
import Derived.Test.YtcllepdkhcikoaaDoorBytes
namespace Go.Proofs.YtcllepdkhcikoaaDoor
open Go.RowKit
def kindsO (xs ys : List Nat) (i : Nat) : Kd := ([.hash xs, .row (Sha.sum xs), .str (Sha.sum xs), .bytes xs, .parts [xs], .row (Sha.sum xs), .str (Sha.sum xs), .val (.bool true), .val (.bool true), .hash ys, .row (Sha.sum ys), .str (Sha.sum ys), .bytes ys, .parts [ys], .row (Sha.sum ys), .str (Sha.sum ys), .val (.bool true), .val (.bool true), .val (.bool true)] : List Kd).getD i (.val undef)
theorem flat1 (l : List Nat) : [l].flatten = l := by simp
set_option maxRecDepth 100000
set_option maxHeartbeats 1000000 in
theorem shaOwn_any (w : World) (A B : Option Addr) (c d : Nat) (xs ys : List Nat) (hRx : RdB w w.heap.size A xs) (hRy : RdB w w.heap.size B ys) (hAc : A = none → c = 0) (hc : xs.length ≤ c) (hd : ys.length ≤ d) (hbx : Sha.Bs xs) (hby : Sha.Bs ys) (hI : Iat w) (hK : Kat w) (h2 : 2 ≤ w.heap.size) (hmx : xs.length ≤ 9223372036854775807) (hmy : ys.length ≤ 9223372036854775807) :
    Calls Tryd.prog 6 #[.slice A xs.length c, .slice B ys.length d] w fun e w' => e = .returned (.bool true) ∧ Below w.heap.size w w' := by
  have HRx := Lib.hid hRx
  have HRy := Lib.hid hRy
  have HBx := Lib.hid hbx
  have HBy := Lib.hid hby
  have HI := Lib.hid hI
  have HK := Lib.hid hK
  have HAc := Lib.hid hAc
  clear hRx hRy hbx hby hI hK hAc
  go_enter Tryd.func6, Tryd.ntmps6
  go_wp2_with fail
  refine (anchor_any w HI.out HK.out h2).mono ?_
  rintro e w1 ⟨rfl, hb1⟩
  have HB1 := Lib.hid hb1
  have hz1 := hb1.size
  clear hb1
  by_cases hl1 : 300 < xs.length
  · go_wp2
    go_ret
    exact ⟨rfl, HB1.out⟩
  · have hd1 : decide ((300 : Int) < (xs.length : Int)) = false := by simp; omega
    by_cases hl2 : 300 < ys.length
    · have hd2 : decide ((300 : Int) < (ys.length : Int)) = true := by simp; omega
      go_wp2
      go_ret
      exact ⟨rfl, HB1.out⟩
    · have hd2 : decide ((300 : Int) < (ys.length : Int)) = false := by simp; omega
      go_wp2_with fail
      refine (new_any w1 (HI.out.below HB1.out (by omega))).mono ?_
      rintro e w2 ⟨rfl, hw2⟩
      have HH2 : Hid (Hst w2 w1.heap.size [] 0) := Lib.hid (by rw [← hw2]; exact new_hst w1)
      have HB2 : Hid (Below w.heap.size w w2) := Lib.hid (by rw [← hw2]; exact HB1.out.alloc hz1 _)
      have hz2 : w1.heap.size < w2.heap.size := HH2.out.lt
      clear hw2
      go_wp2_with fail
      refine (new_any w2 (HI.out.below HB2.out (by omega))).mono ?_
      rintro e w3 ⟨rfl, hw3⟩
      have HH3 : Hid (Hst w3 w2.heap.size [] 0) := Lib.hid (by rw [← hw3]; exact new_hst w2)
      have HG3 : Hid (Hst w3 w1.heap.size [] 0) := Lib.hid (by rw [← hw3]; exact HH2.out.below ((Below.refl _ _).alloc (Nat.le_refl _) _) hz2)
      have HB3 : Hid (Below w.heap.size w w3) := Lib.hid (by rw [← hw3]; exact HB2.out.alloc (by omega) _)
      clear hw3 HH2
      generalize hg1 : w1.heap.size = g1 at *
      generalize hg2 : w2.heap.size = g2 at *
      clear hg1 hg2 HB1 HB2
      have hz3 : g2 < w3.heap.size := HH3.out.lt
      go_upto_region 7 with (at_builtin; refine wpList_append_bytes rfl _ _ rfl w3.heap.size (.slice (some ⟨w3.heap.size, 0, none⟩) 0 0) [] rfl (empty_own w3) A c xs rfl HAc.out (((HRx.out.below HB3.out).below ((Below.refl _ _).alloc (by omega) _)).more (by simp; omega)) (by simp; omega) (by simp) ?_; intro v4 w4 hown4 hgrow4 _)
      have hown4' : w4.ownsRow w3.heap.size 5 1 v4 xs.length (vals .u8 xs) := by simpa using hown4
      have hr4 : (Value.slice (some ⟨w3.heap.size, 0, none⟩) 0 0).ownBlock = some w3.heap.size := rfl
      rw [hr4] at hgrow4
      have ha3 : Below w3.heap.size w3 (w3.alloc (.cells #[] 5)) := (Below.refl _ _).alloc (Nat.le_refl _) _
      have HB4 : Hid (Below w.heap.size w w4) := Lib.hid ((HB3.out.alloc (by omega) _).grown hgrow4 (by simp; omega) (fun j hj => by injection hj with hj; omega))
      have HG4 : Hid (Hst w4 g1 [] 0) := Lib.hid ((HG3.out.below ha3 (by omega)).keep hgrow4 (by omega))
      have HH4 : Hid (Hst w4 g2 [] 0) := Lib.hid ((HH3.out.below ha3 (by omega)).keep hgrow4 (by omega))
      have hz4 : w3.heap.size + 1 ≤ w4.heap.size := by have := hgrow4.size; simpa using this
      generalize w3.heap.size = b3 at *
      clear hown4 hgrow4 ha3 HG3 HH3 HB3 hr4
      obtain ⟨X, cx, hv4, hcx, hcm, hXn, hXr, hXp⟩ := own_form hown4'
      rw [hv4] at hown4' ⊢
      have HO4 := Lib.hid hown4'
      have HXp := Lib.hid hXp
      have HX1 : Hid (0 < xs.length → ∃ p, X = some ⟨p, 0, none⟩ ∧ b3 ≤ p) := Lib.hid (fun h => by
        obtain ⟨ad, e, _⟩ := hXr h
        obtain ⟨p, e2, h3, _⟩ := hXp ad e
        exact ⟨p, by rw [e, e2], h3⟩)
      have HRX : Hid (Rd w4 g1 X xs) := Lib.hid (fun h => by
        obtain ⟨ad, e, h1, h3⟩ := hXr h
        obtain ⟨p, e2, h4, _⟩ := hXp ad e
        exact ⟨ad, e, by rw [e2]; show p ≠ g1; omega, h1, h3⟩)
      clear hown4' hv4 hXr hXp hXn HXp
      go_wp2_with fail
      have hw := write_any w4 g1 [] xs X cx HBx.out HG4.out HRX.out hcx (HK.out.below HB4.out h2) (by omega) (by simp; omega)
      simp only [List.nil_append, List.length_nil, Nat.zero_add] at hw
      refine hw.mono ?_
      rintro e w5 ⟨rfl, hH5, hg5⟩
      have HH5 := Lib.hid hH5
      have HG5 := Lib.hid (HH4.out.keep hg5 (by omega))
      have HB5 : Hid (Below w.heap.size w w5) := Lib.hid (HB4.out.grown hg5 HB4.out.size (fun j hj => by injection hj with hj; omega))
      have HS5 : Hid (Some8 w5 b3 (.slice X xs.length cx) xs.length) := Lib.hid ⟨xs, rfl, HBx.out, own_grown HO4.out hg5 (by omega)⟩
      clear hH5 hg5 hw HG4 HH4 HRX HO4 HB4
      go_wp2
      go_loopw [31] (fun i wr => ∃ k : Nat, k ≤ xs.length ∧ i = .int .i64 k ∧ Some8 wr b3 (.slice X xs.length cx) xs.length ∧ Hst wr g1 xs xs.length ∧ Hst wr g2 [] 0 ∧ Below w.heap.size w wr) (fun i _ => xs.length - (intOf i).toNat)
      case atStart => exact ⟨0, by omega, rfl, HS5.out, HH5.out, HG5.out, HB5.out⟩
      case round =>
        obtain ⟨k, hk, rfl, hS, hH1, hH2, hbel⟩ := hrel
        clear HS5 HH5 HG5 HB5
        have hs2 := hH2.lt
        have hs1 := hH1.lt
        have HS := Lib.hid hS
        have HH1 := Lib.hid hH1
        have HH2 := Lib.hid hH2
        have HB := Lib.hid hbel
        clear hS hH1 hH2 hbel
        by_cases hlt : k < xs.length
        · obtain ⟨p, rfl, hp⟩ := HX1.out (by omega)
          obtain ⟨x, hx, hcl, hfr⟩ := HS.out.cell hlt
          have HS2 := Lib.hid (HS.out.turn (k := k) hx)
          go_wp2
          go_roundw
          case rel => exact ⟨k + 1, by omega, by go_num, HS2.out, HH1.out.put (by omega) _, HH2.out.put (by omega) _, HB.out.setCell (by show w.heap.size ≤ p; omega) _⟩
          case measure => simp [intOf]; omega
        · clear HS
          obtain ⟨wo, hwo⟩ : ∃ wo : World, wo = wr := ⟨_, rfl⟩
          subst hwo
          go_wp2_with fail
          have hw := write_any wo g2 [] ys B d HBy.out HH2.out (HRy.out.rd HB.out (by omega) (by omega)) hd (HK.out.below HB.out h2) (by omega) (by simp; omega)
          simp only [List.nil_append, List.length_nil, Nat.zero_add] at hw
          refine hw.mono ?_
          rintro e w6 ⟨rfl, hH6, hg6⟩
          have HH6 := Lib.hid hH6
          have HG6 := Lib.hid (HH1.out.keep hg6 (by omega))
          have HB6 : Hid (Below w.heap.size w w6) := Lib.hid (HB.out.grown hg6 HB.out.size (fun j hj => by injection hj with hj; omega))
          have hz6 : g2 < w6.heap.size := hH6.lt
          clear hH6 hg6 hw
          go_wp2_with fail
          refine (hsum_any w6 g1 xs HG6.out (HK.out.below HB6.out h2) (by omega) (by omega)).mono ?_
          rintro e w7 ⟨v9, rfl, hown9, hb7⟩
          have HB7 : Hid (Below w.heap.size w w7) := Lib.hid (HB6.out.trans (hb7.mono HB6.out.size))
          have HG7 : Hid (Hst w7 g1 xs xs.length) := Lib.hid (HG6.out.below hb7 (by omega))
          have HH7 : Hid (Hst w7 g2 ys ys.length) := Lib.hid (HH6.out.below hb7 (by omega))
          obtain ⟨p, cap, hv9, hp9⟩ := own_slice hown9
          rw [hv9] at hown9 ⊢
          have HS7 : Hid (Some8 w7 w6.heap.size (.slice (some ⟨p, 0, none⟩) 32 cap) 32) := Lib.hid ⟨_, rfl, Sha.sum_Bs xs, hown9⟩
          clear hown9 hb7 hv9 HB6 HG6 HH6 HB HH1 HH2
          go_wp2
          go_loopw [48] (fun i wr => ∃ k : Nat, k ≤ 32 ∧ i = .int .i64 k ∧ Some8 wr w6.heap.size (.slice (some ⟨p, 0, none⟩) 32 cap) 32 ∧ Hst wr g1 xs xs.length ∧ Hst wr g2 ys ys.length ∧ Below w.heap.size w wr) (fun i _ => 32 - (intOf i).toNat)
          case atStart => exact ⟨0, by omega, rfl, HS7.out, HG7.out, HH7.out, HB7.out⟩
          case round =>
            obtain ⟨k, hk, rfl, hS, hH1, hH2, hbel⟩ := hrel
            clear HS7 HG7 HH7 HB7
            have hs2 := hH2.lt
            have hs1 := hH1.lt
            have HS := Lib.hid hS
            have HH1 := Lib.hid hH1
            have HH2 := Lib.hid hH2
            have HB := Lib.hid hbel
            clear hS hH1 hH2 hbel
            by_cases hlt3 : k < 32
            · obtain ⟨x, hx, hcl, hfr⟩ := HS.out.cell hlt3
              have HS2 := Lib.hid (HS.out.turn (k := k) hx)
              go_wp2
              go_roundw
              case rel => exact ⟨k + 1, by omega, by go_num, HS2.out, HH1.out.put (by omega) _, HH2.out.put (by omega) _, HB.out.setCell (by show w.heap.size ≤ p; omega) _⟩
              case measure => simp [intOf]; omega
            · clear HS
              go_upto_region 20 with (fail)
              have hC : Cx wr.drew := ⟨HI.out.below HB.out.drew (by omega), HK.out.below HB.out.drew h2, by show 2 ≤ wr.heap.size; omega⟩
              have HC := Lib.hid hC
              clear hC
              refine region_inv (Rw wr.drew) (fun i => (kindsO xs ys i).is) (by kernel_rfl) (by kernel_rfl) (Below.refl _ _) ⟨?_, ?_, ?_, ?_, ?_, ?_, ?_, ?_, ?_, ?_, ?_, ?_, ?_, ?_, ?_, ?_, ?_, ?_, ?_, trivial⟩ ?_
              · exact ob_old ⟨by kernel_rfl, (at0 _ _), ⟨_, rfl, by exact (by decide : 58 < 76)⟩, (.inl rfl)⟩ 5 rfl (by kernel_rfl) (fun w' hr => ⟨g1, rfl, by omega, HH1.out.below (Below.trans ((Below.refl wr.heap.size wr).drew) hr) (by omega)⟩)
              · exact ob_hsum ⟨by kernel_rfl, (atS (at0 _ _)), ⟨_, rfl, by exact (by decide : 59 < 76)⟩, (.inl rfl)⟩ 0 58 _ xs rfl (by kernel_rfl) rfl rfl rfl HC.out (by omega)
              · exact ob_conv ⟨by kernel_rfl, (atS (atS (at0 _ _))), ⟨_, rfl, by exact (by decide : 60 < 76)⟩, (.inl rfl)⟩ 1 59 (Sha.sum xs) rfl (by kernel_rfl) rfl rfl rfl (by rw [Sha.sum_length]; decide)
              · exact ob_old ⟨by kernel_rfl, (atS (atS (atS (at0 _ _)))), ⟨_, rfl, by exact (by decide : 61 < 76)⟩, (.inl rfl)⟩ 0 rfl (by kernel_rfl) (fun w' hr => ⟨HBx.out, A, c, rfl, hc, ((HRx.out.below HB.out).below (Below.trans ((Below.refl w.heap.size wr).drew) (hr.mono (by show w.heap.size ≤ wr.heap.size; omega)))).more (Nat.le_trans (show w.heap.size ≤ wr.heap.size by omega) hr.size)⟩)
              · exact ob_build1 ⟨by kernel_rfl, (atS (atS (atS (atS (at0 _ _))))), ⟨_, rfl, by exact (by decide : 62 < 76)⟩, (.inl rfl)⟩ 3 61 xs rfl (by kernel_rfl) rfl rfl rfl
              · exact ob_sum ⟨by kernel_rfl, (atS (atS (atS (atS (atS (at0 _ _)))))), ⟨_, rfl, by exact (by decide : 63 < 76)⟩, (.inl rfl)⟩ (.tmp 62) _ [xs] rfl (fun _ _ _ h hd => h.opd (j := 4) hd (by kernel_rfl) rfl) (by rw [flat1]; rfl) HC.out (by simp) (by simp; omega)
              · exact ob_conv ⟨by kernel_rfl, (atS (atS (atS (atS (atS (atS (at0 _ _))))))), ⟨_, rfl, by exact (by decide : 64 < 76)⟩, (.inl rfl)⟩ 5 63 (Sha.sum xs) rfl (by kernel_rfl) rfl rfl rfl (by rw [Sha.sum_length]; decide)
              · exact ob_eql ⟨by kernel_rfl, (atS (atS (atS (atS (atS (atS (atS (at0 _ _)))))))), ⟨_, rfl, by exact (by decide : 65 < 76)⟩, (.inl rfl)⟩ 2 6 60 64 (Sha.sum xs) rfl (by kernel_rfl) rfl (by kernel_rfl) rfl rfl rfl rfl
              · exact ob_move ⟨by kernel_rfl, (atS (atS (atS (atS (atS (atS (atS (atS (at0 _ _))))))))), ⟨_, rfl, by exact (by decide : 66 < 76)⟩, (.inl rfl)⟩ 7 65 rfl (by kernel_rfl) rfl rfl
              · exact ob_old ⟨by kernel_rfl, (atS (atS (atS (atS (atS (atS (atS (atS (atS (at0 _ _)))))))))), ⟨_, rfl, by exact (by decide : 67 < 76)⟩, (.inr ⟨8, 66, rfl, rfl, by kernel_rfl, rfl, by exact (by decide : 66 < 76)⟩)⟩ 6 rfl (by kernel_rfl) (fun w' hr => ⟨g2, rfl, by omega, HH2.out.below (Below.trans ((Below.refl wr.heap.size wr).drew) hr) (by omega)⟩)
              · exact ob_hsum ⟨by kernel_rfl, (atS (atS (atS (atS (atS (atS (atS (atS (atS (atS (at0 _ _))))))))))), ⟨_, rfl, by exact (by decide : 68 < 76)⟩, (.inr ⟨8, 66, rfl, rfl, by kernel_rfl, rfl, by exact (by decide : 66 < 76)⟩)⟩ 9 67 _ ys rfl (by kernel_rfl) rfl rfl rfl HC.out (by omega)
              · exact ob_conv ⟨by kernel_rfl, (atS (atS (atS (atS (atS (atS (atS (atS (atS (atS (atS (at0 _ _)))))))))))), ⟨_, rfl, by exact (by decide : 69 < 76)⟩, (.inr ⟨8, 66, rfl, rfl, by kernel_rfl, rfl, by exact (by decide : 66 < 76)⟩)⟩ 10 68 (Sha.sum ys) rfl (by kernel_rfl) rfl rfl rfl (by rw [Sha.sum_length]; decide)
              · exact ob_old ⟨by kernel_rfl, (atS (atS (atS (atS (atS (atS (atS (atS (atS (atS (atS (atS (at0 _ _))))))))))))), ⟨_, rfl, by exact (by decide : 70 < 76)⟩, (.inr ⟨8, 66, rfl, rfl, by kernel_rfl, rfl, by exact (by decide : 66 < 76)⟩)⟩ 1 rfl (by kernel_rfl) (fun w' hr => ⟨HBy.out, B, d, rfl, hd, ((HRy.out.below HB.out).below (Below.trans ((Below.refl w.heap.size wr).drew) (hr.mono (by show w.heap.size ≤ wr.heap.size; omega)))).more (Nat.le_trans (show w.heap.size ≤ wr.heap.size by omega) hr.size)⟩)
              · exact ob_build1 ⟨by kernel_rfl, (atS (atS (atS (atS (atS (atS (atS (atS (atS (atS (atS (atS (atS (at0 _ _)))))))))))))), ⟨_, rfl, by exact (by decide : 71 < 76)⟩, (.inr ⟨8, 66, rfl, rfl, by kernel_rfl, rfl, by exact (by decide : 66 < 76)⟩)⟩ 12 70 ys rfl (by kernel_rfl) rfl rfl rfl
              · exact ob_sum ⟨by kernel_rfl, (atS (atS (atS (atS (atS (atS (atS (atS (atS (atS (atS (atS (atS (atS (at0 _ _))))))))))))))), ⟨_, rfl, by exact (by decide : 72 < 76)⟩, (.inr ⟨8, 66, rfl, rfl, by kernel_rfl, rfl, by exact (by decide : 66 < 76)⟩)⟩ (.tmp 71) _ [ys] rfl (fun _ _ _ h hd => h.opd (j := 13) hd (by kernel_rfl) rfl) (by rw [flat1]; rfl) HC.out (by simp) (by simp; omega)
              · exact ob_conv ⟨by kernel_rfl, (atS (atS (atS (atS (atS (atS (atS (atS (atS (atS (atS (atS (atS (atS (atS (at0 _ _)))))))))))))))), ⟨_, rfl, by exact (by decide : 73 < 76)⟩, (.inr ⟨8, 66, rfl, rfl, by kernel_rfl, rfl, by exact (by decide : 66 < 76)⟩)⟩ 14 72 (Sha.sum ys) rfl (by kernel_rfl) rfl rfl rfl (by rw [Sha.sum_length]; decide)
              · exact ob_eql ⟨by kernel_rfl, (atS (atS (atS (atS (atS (atS (atS (atS (atS (atS (atS (atS (atS (atS (atS (atS (at0 _ _))))))))))))))))), ⟨_, rfl, by exact (by decide : 74 < 76)⟩, (.inr ⟨8, 66, rfl, rfl, by kernel_rfl, rfl, by exact (by decide : 66 < 76)⟩)⟩ 11 15 69 73 (Sha.sum ys) rfl (by kernel_rfl) rfl (by kernel_rfl) rfl rfl rfl rfl
              · exact ob_pick ⟨by kernel_rfl, (atS (atS (atS (atS (atS (atS (atS (atS (atS (atS (atS (atS (atS (atS (atS (atS (atS (at0 _ _)))))))))))))))))), ⟨_, rfl, by exact (by decide : 75 < 76)⟩, (.inl rfl)⟩ 8 16 66 74 rfl (by kernel_rfl) rfl (by kernel_rfl) rfl rfl rfl rfl
              · exact ob_assign ⟨by kernel_rfl, (atS (atS (atS (atS (atS (atS (atS (atS (atS (atS (atS (atS (atS (atS (atS (atS (atS (atS (at0 _ _))))))))))))))))))), ⟨_, rfl, by exact (by decide : 4 < 76)⟩, (.inl rfl)⟩ 17 75 rfl (by kernel_rfl) rfl rfl
              · intro a' w' hG hdf hsz hold hr
                have hv : a'.tmps.getD 4 undef = .bool true := hG 18 4 (by exact (by decide : 18 < 19)) rfl
                have HF := Lib.hid (HB.out.drew.trans (hr.mono (show w.heap.size ≤ wr.heap.size by omega)))
                clear hr hG hold hsz
                go_wp2
                refine bodyPost_ret (results_tmp rfl _ _ _) hdf ⟨?_, HF.out⟩
                rw [hv]
end Go.Proofs.YtcllepdkhcikoaaDoor
