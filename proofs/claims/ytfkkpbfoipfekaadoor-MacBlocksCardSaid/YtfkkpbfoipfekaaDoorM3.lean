/-
  What mac.Code makes: a row of its own of the code of the parts, one behind the other, under the key; nothing that was there before the call has changed.
-/
import Derived.Test.YtfkkpbfoipfekaaDoorM2
namespace Go.Proofs.YtfkkpbfoipfekaaDoor
open Go.RowKit
/-- Two parts, as a literal lays them. -/
theorem parts_two {w : World} {A B : Option Addr} {c d : Nat} {l m : List Nat} (hR : RdB w w.heap.size A l) (hc : l.length ≤ c) (hS : RdB w w.heap.size B m) (hd : m.length ≤ d) :
    Parts (w.alloc (.cells #[.slice A l.length c, .slice B m.length d] 22)) (w.alloc (.cells #[.slice A l.length c, .slice B m.length d] 22)).heap.size (some ⟨w.heap.size, 0, none⟩) [l, m] := by
  have hb : Below w.heap.size w (w.alloc (.cells #[.slice A l.length c, .slice B m.length d] 22)) := (Below.refl _ _).alloc (Nat.le_refl _) _
  intro i hi
  obtain rfl | rfl : i = 0 ∨ i = 1 := by
    simp only [List.length_cons, List.length_nil] at hi
    omega
  · refine ⟨_, A, c, rfl, by simp, ?_, hc, (hR.below hb).more (by simp)⟩
    rw [Addr.add_mid, Nat.add_zero, (Blk.new w 22 #[.slice A l.length c, .slice B m.length d]).cell]
    rfl
  · refine ⟨_, B, d, rfl, by simp, ?_, hd, (hS.below hb).more (by simp)⟩
    rw [Addr.add_mid, Nat.zero_add, (Blk.new w 22 #[.slice A l.length c, .slice B m.length d]).cell]
    rfl
set_option maxRecDepth 100000
set_option maxHeartbeats 1000000 in
theorem code_any (w : World) (A : Option Addr) (c : Nat) (key : List Nat) (B : Option Addr) (d : Nat) (ps : List (List Nat)) (hR : RdB w w.heap.size A key) (hAc : A = none → c = 0) (hc : key.length ≤ c) (hb : Sha.Bs key)
    (hP : Parts w w.heap.size B ps) (hBs : ∀ p ∈ ps, Sha.Bs p) (hI : Iat w) (hK : Kat w) (h2 : 2 ≤ w.heap.size) (hN : key.length < 576460752303423488) (hn : ps.length ≤ 1152921504606846976) (hM : 64 + ps.flatten.length < 576460752303423488) :
    Calls Tryd.prog 11 #[.slice A key.length c, .slice B ps.length d] w fun e w' => ∃ v, e = .returned v ∧ w'.ownsRow w.heap.size 5 1 v 32 (vals .u8 (Mac.code key ps.flatten)) ∧ Below w.heap.size w w' := by
  have HR := Lib.hid hR
  have HB := Lib.hid hb
  have HI := Lib.hid hI
  have HK := Lib.hid hK
  have HAc := Lib.hid hAc
  have HP := Lib.hid hP
  have HBs := Lib.hid hBs
  clear hR hb hI hK hAc hP hBs
  go_enter Tryd.func11, Tryd.ntmps11
  go_wp2_with fail
  refine (blockKey_any w A c key HR.out HAc.out hc HB.out HI.out HK.out h2 hN).mono ?_
  rintro e w1 ⟨rfl, hb1⟩
  have HB1 := Lib.hid hb1
  have hz1 := hb1.size
  clear hb1 HR HAc
  have HBk := Lib.hid (Mac.blockOf_Bs HB.out)
  have hbl := Mac.blockOf_length key
  have hcode : Mac.code key ps.flatten = Sha.sum (Mac.xorAll 92 (Mac.blockOf key) ++ Sha.sum (Mac.xorAll 54 (Mac.blockOf key) ++ ps.flatten)) := rfl
  have HCode := Lib.hid hcode
  clear hcode
  generalize Mac.blockOf key = blk at *
  have hal := Blk.new w1 38 (Vs .u8 zs64)
  go_wp2_with (first
    | (refine wpList_allocRun rfl 38 rfl _ (alloc64 _) ?_)
    | (refine wpList_store_row rfl 38 _ _ rfl w1.heap.size _ rfl rfl 38 _ hal ?z2 ?z3 ?z4 ?_))
  case z2 => rw [Vs_size, hbl]; exact Tryd.info43
  case z3 => rw [Vs_size, Vs_size, hbl, zs64_length]
  case z4 => exact Vs_one _ _
  have HBl2 := Lib.hid (hal.row (Vs .u8 blk))
  have HB2 : Hid (Below w.heap.size w ((w1.alloc (.cells (Vs .u8 zs64) 38)).setRow w1.heap.size (Vs .u8 blk))) := Lib.hid (below_setRow (HB1.out.alloc hz1 _) hz1 _)
  have hz2 : ((w1.alloc (.cells (Vs .u8 zs64) 38)).setRow w1.heap.size (Vs .u8 blk)).heap.size = w1.heap.size + 1 := by simp
  clear hal
  generalize (w1.alloc (.cells (Vs .u8 zs64) 38)).setRow w1.heap.size (Vs .u8 blk) = w2 at *
  generalize w1.heap.size = g1 at *
  clear HB1
  go_wp2_with fail
  refine (new_any w2 (HI.out.below HB2.out (by omega))).mono ?_
  rintro e w3 ⟨rfl, hw3⟩
  have HH3 : Hid (Hst w3 w2.heap.size [] 0) := Lib.hid (by rw [← hw3]; exact new_hst w2)
  have HBl3 : Hid (Blk w3 g1 38 (Vs .u8 blk)) := Lib.hid (by rw [← hw3]; exact HBl2.out.alloc _)
  have HB3 : Hid (Below w.heap.size w w3) := Lib.hid (by rw [← hw3]; exact HB2.out.alloc (by omega) _)
  clear hw3 HB2 HBl2
  rw [hz2] at HH3 ⊢
  clear hz2
  have hz3 : g1 + 1 < w3.heap.size := HH3.out.lt
  go_wp2_with (refine wpList_load_row rfl 38 _ rfl g1 rfl 38 _ _ _ HBl3.out Tryd.underlying38 rfl (by rw [Vs_size, hbl]; exact Tryd.info43) ?_)
  refine (masked_any blk hbl HBk.out 54 (by decide) w3).mono ?_
  rintro e w4 ⟨v, rfl, hown, hb4⟩
  have hil : (Mac.xorAll 54 blk).length = 64 := by rw [Mac.xorAll_length, hbl]
  have HIB := Lib.hid (Mac.xorAll_Bs (x := 54) (by decide) HBk.out)
  obtain ⟨p, cap, rfl, hcap, hpb, hpl, hrd⟩ := own_rd hown hil.symm (by decide)
  have HRd := Lib.hid (hrd (g1 + 1) (by omega))
  have HH4 : Hid (Hst w4 (g1 + 1) [] 0) := Lib.hid (HH3.out.below hb4 hz3)
  have HBl4 : Hid (Blk w4 g1 38 (Vs .u8 blk)) := Lib.hid (HBl3.out.below hb4 (by omega))
  have HB4 : Hid (Below w.heap.size w w4) := Lib.hid (HB3.out.trans (hb4.mono (by omega)))
  clear hown hrd hb4 HH3 HBl3 HB3
  have HIL := Lib.hid hil
  clear hil
  generalize Mac.xorAll 54 blk = ip at *
  go_wp2_with fail
  have hw := write_any w4 (g1 + 1) [] ip (some ⟨p, 0, none⟩) cap HIB.out HH4.out HRd.out hcap (HK.out.below HB4.out h2) (by omega) (by rw [HIL.out]; simp)
  simp only [List.nil_append, List.length_nil, Nat.zero_add] at hw
  refine hw.mono ?_
  rintro e w5 ⟨rfl, hH5, hg5⟩
  have HH5 := Lib.hid hH5
  have HBl5 : Hid (Blk w5 g1 38 (Vs .u8 blk)) := Lib.hid (HBl4.out.grown hg5 (by intro e; injection e with e; omega))
  have HB5 : Hid (Below w.heap.size w w5) := Lib.hid (HB4.out.grown hg5 HB4.out.size (fun j hj => by injection hj with hj; omega))
  clear hH5 hg5 hw HH4 HBl4 HB4 HRd
  go_wp2
  go_loopw [18] (fun i wr => ∃ k : Nat, k ≤ ps.length ∧ i = .int .i64 k ∧ Hst wr (g1 + 1) (ip ++ (ps.take k).flatten) (ip ++ (ps.take k).flatten).length ∧ Blk wr g1 38 (Vs .u8 blk) ∧ Below w.heap.size w wr) (fun i _ => ps.length - (intOf i).toNat)
  case atStart => exact ⟨0, by omega, rfl, by simpa using HH5.out, HBl5.out, HB5.out⟩
  case round =>
    obtain ⟨k, hk, rfl, hH, hBl, hbel⟩ := hrel
    clear HH5 HBl5 HB5
    have hlt3 : g1 + 1 < wr.heap.size := hH.lt
    by_cases hlt : k < ps.length
    · obtain ⟨ad, Ai, ci, rfl, hadb, hcell, hci, hrd⟩ := HP.out k hlt
      have hcl : wr.cell? (ad.add k) = some (.slice Ai (ps.getD k []).length ci) := (hbel.cell (by rw [block_add]; exact hadb)).trans hcell
      have HH := Lib.hid hH
      have HBl := Lib.hid hBl
      have HB := Lib.hid hbel
      have HR := Lib.hid (hrd.rd (g := g1 + 1) hbel (by omega) hbel.size)
      have HN : Hid ((ps.take (k + 1)).flatten = (ps.take k).flatten ++ ps.getD k []) := Lib.hid (take_flat ps k hlt)
      have HN2 : Hid ((ps.take (k + 1)).flatten.length ≤ ps.flatten.length) := Lib.hid (flat_le ps (k + 1))
      have HBp : Hid (Sha.Bs (ps.getD k [])) := Lib.hid (HBs.out _ (by rw [List.getD_eq_getElem?_getD, List.getElem?_eq_getElem hlt]; simp))
      clear hH hBl hbel hcell hrd
      generalize ps.getD k [] = pk at hcl HR HN HBp hci
      go_wp2_with fail
      refine (write_any wr (g1 + 1) (ip ++ (ps.take k).flatten) pk Ai ci HBp.out HH.out HR.out hci (HK.out.below HB.out h2) (by omega) (by have := HN2.out; rw [HN.out, List.length_append] at this; rw [List.length_append, HIL.out]; omega)).mono ?_
      rintro e w6 ⟨rfl, hH6, hg6⟩
      have HH6 : Hid (Hst w6 (g1 + 1) (ip ++ (ps.take (k + 1)).flatten) (ip ++ (ps.take (k + 1)).flatten).length) := Lib.hid (by rw [HN.out, ← List.append_assoc, List.length_append]; exact hH6)
      have HBl6 : Hid (Blk w6 g1 38 (Vs .u8 blk)) := Lib.hid (HBl.out.grown hg6 (by intro e; injection e with e; omega))
      have HB6 : Hid (Below w.heap.size w w6) := Lib.hid (HB.out.grown hg6 HB.out.size (fun j hj => by injection hj with hj; omega))
      clear hH6 hg6 HH HBl HB
      go_wp2
      go_roundw
      case rel => exact ⟨k + 1, by omega, by go_num, HH6.out, HBl6.out, HB6.out⟩
      case measure => simp [intOf]; omega
    · obtain rfl : k = ps.length := by omega
      rw [List.take_length] at hH
      have HH := Lib.hid hH
      have HBl := Lib.hid hBl
      have HB := Lib.hid hbel
      clear hH hBl hbel
      have hol : (Mac.xorAll 92 blk).length = 64 := by rw [Mac.xorAll_length, hbl]
      have HOB := Lib.hid (Mac.xorAll_Bs (x := 92) (by decide) HBk.out)
      obtain ⟨wo, hwo⟩ : ∃ wo : World, wo = wr := ⟨_, rfl⟩
      subst hwo
      go_wp2_with (refine wpList_load_row rfl 38 _ rfl g1 rfl 38 _ _ _ HBl.out Tryd.underlying38 rfl (by rw [Vs_size, hbl]; exact Tryd.info43) ?_)
      refine (masked_any blk hbl HBk.out 92 (by decide) wo).mono ?_
      rintro e w6 ⟨v6, rfl, hown6, hb6⟩
      have HH6 : Hid (Hst w6 (g1 + 1) (ip ++ ps.flatten) (ip ++ ps.flatten).length) := Lib.hid (HH.out.below hb6 hlt3)
      have HB6 : Hid (Below w.heap.size w w6) := Lib.hid (HB.out.trans (hb6.mono HB.out.size))
      have hz6 := hb6.size
      have HO6 : Hid (w6.ownsRow wo.heap.size 5 1 v6 (Mac.xorAll 92 blk).length (vals .u8 (Mac.xorAll 92 blk))) := Lib.hid (by rw [hol]; exact hown6)
      clear hown6 hb6 HH HBl HB
      have HOL := Lib.hid hol
      clear hol
      generalize Mac.xorAll 92 blk = op at *
      go_wp2_with fail
      refine (hsum_any w6 (g1 + 1) (ip ++ ps.flatten) HH6.out (HK.out.below HB6.out h2) (by omega) (by rw [List.length_append, HIL.out]; omega)).mono ?_
      rintro e w7 ⟨v7, rfl, hown7, hb7⟩
      have hown7' : w7.ownsRow w6.heap.size 5 1 v7 (Sha.sum (ip ++ ps.flatten)).length (vals .u8 (Sha.sum (ip ++ ps.flatten))) := by rw [Sha.sum_length]; exact hown7
      have hown6' := own_below HO6.out hb7
      obtain ⟨X, cx, hvx, hcx, _, _, hXr, _⟩ := own_form hown6'
      obtain ⟨Y, cy, hvy, hcy, _, _, hYr, _⟩ := own_form hown7'
      subst hvx hvy
      have HP7 := Lib.hid (parts_two hXr hcx hYr hcy)
      have hb7' : Below w.heap.size w w7 := HB6.out.trans (hb7.mono HB6.out.size)
      have HB7 : Hid (Below w.heap.size w (w7.alloc (.cells #[.slice X op.length cx, .slice Y (Sha.sum (ip ++ ps.flatten)).length cy] 22))) := Lib.hid (hb7'.alloc hb7'.size _)
      have HB7' := Lib.hid hb7'
      have HSB := Lib.hid (Sha.sum_Bs (ip ++ ps.flatten))
      have HSL := Lib.hid (Sha.sum_length (ip ++ ps.flatten))
      clear hown7 hown7' hown6' hXr hYr hb7 hb7' HO6 HH6 HB6
      generalize Sha.sum (ip ++ ps.flatten) = inner at *
      go_wp2_with fail
      refine (sum_any _ _ 2 [op, inner] HP7.out (by intro p hp; rw [List.mem_cons, List.mem_singleton] at hp; rcases hp with rfl | rfl; exact HOB.out; exact HSB.out) (HI.out.below HB7.out (by omega)) (HK.out.below HB7.out h2) (by have := HB7.out.size; omega) (by simp) (by simp [HOL.out, HSL.out])).mono ?_
      rintro e w8 ⟨v8, rfl, hown8, hb8⟩
      simp only [List.flatten_cons, List.flatten_nil, List.append_nil] at hown8
      have HF : Hid (w8.ownsRow w.heap.size 5 1 v8 32 (vals .u8 (Mac.code key ps.flatten))) := Lib.hid (by rw [HCode.out]; exact own_lower hown8 HB7.out.size)
      have HG : Hid (Below w.heap.size w w8) := Lib.hid (HB7.out.trans (hb8.mono HB7.out.size))
      clear hown8 hb8 HP7 HB7
      go_wp2
      go_ret
      exact ⟨v8, rfl, HF.out, HG.out⟩
end Go.Proofs.YtfkkpbfoipfekaaDoor
