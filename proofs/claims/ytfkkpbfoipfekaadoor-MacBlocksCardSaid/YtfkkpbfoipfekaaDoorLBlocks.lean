/-
  The walk of the statement MacBlocks: whatever the bytes and the number it returns true, and nothing that was there before has changed.
-/
import Derived.Test.YtfkkpbfoipfekaaDoorReg10
namespace Go.Proofs.YtfkkpbfoipfekaaDoor
open Go.RowKit
def kindsB (key info : List Nat) (N i H L : Nat) (n : Nat) : Kd := ([.bytes (spreadTo key info N), .val (.int .i64 (i : Int)), .val (.int .i64 ((32 * i : Nat) : Int)), .val (.int .i64 (i : Int)), .val (.int .i64 ((32 * i : Nat) : Int)), .val (.int .i64 ((32 * i + 32 : Nat) : Int)), .val (.int .i64 (N : Int)), .val (.int .i64 (H : Int)), .bytes ((Mac.blk key info (i + 1)).take L), .str ((Mac.blk key info (i + 1)).take L), .bytes (Mac.blk key info (i + 1)), .val (.int .i64 (N : Int)), .val (.int .i64 (i : Int)), .val (.int .i64 ((32 * i : Nat) : Int)), .val (.int .i64 ((N - 32 * i : Nat) : Int)), .val (.int .i64 (L : Int)), .bytes ((Mac.blk key info (i + 1)).take L), .str ((Mac.blk key info (i + 1)).take L), .val (.bool false)] : List Kd).getD n (.val undef)
/-- A block of what is spread, the last one cut. -/
theorem spread_cut (key info : List Nat) (N i H L : Nat) (h1 : 32 * i < N) (hH : H = min (32 * i + 32) N) (hL : L = min 32 (N - 32 * i)) : ((spreadTo key info N).drop (32 * i)).take (H - 32 * i) = (Mac.blk key info (i + 1)).take L := by
  have e : H - 32 * i = L := by omega
  rw [e]
  unfold spreadTo
  rw [List.drop_take, List.take_take, Nat.min_eq_left (by omega), ← Mac.spread_block key info i ((N + 31) / 32) (by omega), List.take_take, Nat.min_eq_left (by omega)]
set_option maxRecDepth 100000
set_option maxHeartbeats 1000000 in
theorem macBlocks_any (w : World) (A B : Option Addr) (c d : Nat) (key info : List Nat) (n : Int) (hRk : RdB w w.heap.size A key) (hRi : RdB w w.heap.size B info) (hAc : A = none → c = 0) (hc : key.length ≤ c) (hd : info.length ≤ d) (hbk : Sha.Bs key) (hbi : Sha.Bs info) (hI : Iat w) (hK : Kat w) (h2 : 2 ≤ w.heap.size) :
    Calls Tryd.prog 8 #[.slice A key.length c, .slice B info.length d, .int .i64 n] w fun e w' => e = .returned (.bool true) ∧ Below w.heap.size w w' := by
  have HRk := Lib.hid hRk
  have HRi := Lib.hid hRi
  have HBk := Lib.hid hbk
  have HBi := Lib.hid hbi
  have HI := Lib.hid hI
  have HK := Lib.hid hK
  have HAc := Lib.hid hAc
  clear hRk hRi hbk hbi hI hK hAc
  go_enter Tryd.func8, Tryd.ntmps8
  go_wp2_with fail
  refine (anchor_any w HI.out HK.out h2).mono ?_
  rintro e w1 ⟨rfl, hb1⟩
  have HB1 := Lib.hid hb1
  have hz1 := hb1.size
  clear hb1
  by_cases hl1 : 100 < key.length
  · have hd1 : decide ((100 : Int) < (key.length : Int)) = true := by simp; omega
    go_wp2
    go_ret
    exact ⟨rfl, HB1.out⟩
  have hd1 : decide ((100 : Int) < (key.length : Int)) = false := by simp; omega
  by_cases hl2 : 100 < info.length
  · have hd2 : decide ((100 : Int) < (info.length : Int)) = true := by simp; omega
    go_wp2
    go_ret
    exact ⟨rfl, HB1.out⟩
  have hd2 : decide ((100 : Int) < (info.length : Int)) = false := by simp; omega
  by_cases hn0 : n < 0
  · have hd3 : decide (n < 0) = true := by simp; omega
    go_wp2
    go_ret
    exact ⟨rfl, HB1.out⟩
  have hd3 : decide (n < 0) = false := by simp; omega
  by_cases hn1 : 130 < n
  · have hd4 : decide (130 < n) = true := by simp; omega
    go_wp2
    go_ret
    exact ⟨rfl, HB1.out⟩
  have hd4 : decide (130 < n) = false := by simp; omega
  obtain ⟨N, rfl⟩ : ∃ N : Nat, n = (N : Int) := ⟨n.toNat, by omega⟩
  have hN : N ≤ 130 := by omega
  go_wp2_with fail
  refine (expand_any w1 A B c d key info N (by omega) ((HRk.out.below HB1.out).more hz1) HAc.out hc HBk.out ((HRi.out.below HB1.out).more hz1) hd HBi.out (HI.out.below HB1.out (by omega)) (HK.out.below HB1.out h2) (by omega) (by omega) (by omega)).mono ?_
  rintro e w2 ⟨X, cx, rfl, hXr, hcx, hXn, hb2⟩
  have HB2 := Lib.hid (HB1.out.trans (hb2.mono hz1))
  have hz2 : w.heap.size ≤ w2.heap.size := HB2.out.size
  have HXr := Lib.hid hXr
  clear hb2 HB1 hXr hXn
  go_wp2
  go_loopw [9, 10] (fun p v wr => ∃ i : Nat, i ≤ 5 ∧ v = .int .i64 (i : Int) ∧ wr.ownsRow w2.heap.size 5 1 p (Mac.blk key info i).length (vals .u8 (Mac.blk key info i)) ∧ Below w2.heap.size w2 wr) (fun _ v _ => 10 - (intOf v).toNat)
  case atStart => exact ⟨0, by omega, rfl, World.ownsRow_nil _ _ _ _, Below.refl _ _⟩
  case round =>
    obtain ⟨i, hi, rfl, hp, hbel⟩ := hrel
    have hsz := hbel.size
    obtain ⟨Y, cy, hpy, hcy, _, hYn, hYr, _⟩ := own_form hp
    subst hpy
    have HYr := Lib.hid hYr
    have HBl := Lib.hid hbel
    have HBw : Hid (Below w.heap.size w wr) := Lib.hid (HB2.out.trans (hbel.mono hz2))
    clear hp hbel hYr hYn
    have hwm : IntKind.i64.wrap (32 * (i : Int)) = 32 * (i : Int) := by rw [IntKind.wrap_i64]; omega
    by_cases hlt : 32 * i < N
    · have hd5 : decide (32 * (i : Int) < (N : Int)) = true := by simp; omega
      have hnum : IntKind.u8.wrap ((i : Int) + 1) = (i : Int) + 1 := by rw [IntKind.wrap_u8]; omega
      go_wp2_with fail
      generalize hw3 : World.alloc (World.alloc wr _) _ = w3
      have hb1 : Below wr.heap.size wr (wr.alloc (.cells (Vs .u8 [i + 1]) 5)) := (Below.refl _ _).alloc (Nat.le_refl _) _
      have hz0 : (wr.alloc (.cells (Vs .u8 [i + 1]) 5)).heap.size = wr.heap.size + 1 := by simp
      have hp3 := parts_three (w := wr.alloc (.cells (Vs .u8 [i + 1]) 5)) (f := 1) ((HYr.out.below hb1).more hb1.size) hcy ((HRi.out.below (HBw.out.trans (hb1.mono HBw.out.size))).more (Nat.le_trans HBw.out.size hb1.size)) hd (new_rdb wr [i + 1]) (by simp)
      rw [hz0] at hp3
      have HP3 : Hid (Parts w3 w3.heap.size (some ⟨wr.heap.size + 1, 0, none⟩) [Mac.blk key info i, info, [i + 1]]) := Lib.hid (by rw [← hw3]; exact hp3)
      have hb3 : Below wr.heap.size wr w3 := by rw [← hw3]; exact ((Below.refl _ _).alloc (Nat.le_refl _) _).alloc (by simp) _
      have HB3 : Hid (Below w2.heap.size w2 w3) := Lib.hid (HBl.out.trans (hb3.mono hsz))
      have HBw3 : Hid (Below w.heap.size w w3) := Lib.hid (HB2.out.trans (HB3.out.mono hz2))
      have hz3 : w.heap.size ≤ w3.heap.size := HBw3.out.size
      have hz23 : w2.heap.size ≤ w3.heap.size := HB3.out.size
      have hbl : (Mac.blk key info i).length ≤ 32 := by
        cases i with
        | zero => simp [Mac.blk]
        | succ i => rw [Mac.blk_length]; omega
      clear hw3 hb1 hz0 hp3 hb3 HBl HBw HYr
      refine (code_any w3 A c key _ 3 [Mac.blk key info i, info, [i + 1]] ((HRk.out.below HBw3.out).more hz3) HAc.out hc HBk.out HP3.out (by
        intro p hp
        simp only [List.mem_cons, List.not_mem_nil, or_false] at hp
        rcases hp with rfl | rfl | rfl
        · exact Mac.blk_Bs _ _ _
        · exact HBi.out
        · intro x hx
          rw [List.mem_singleton] at hx
          omega) (HI.out.below HBw3.out (by omega)) (HK.out.below HBw3.out h2) (by omega) (by omega) (by simp) (by simp only [List.flatten_cons, List.flatten_nil, List.length_append, List.length_cons, List.length_nil]; omega)).mono ?_
      rintro e w4 ⟨v4, rfl, hown4, hb4⟩
      have hfl : [Mac.blk key info i, info, [i + 1]].flatten = Mac.blk key info i ++ info ++ [i + 1] := by simp
      have ebl : Mac.code key (Mac.blk key info i ++ info ++ [i + 1]) = Mac.blk key info (i + 1) := rfl
      rw [hfl, ebl] at hown4
      have hown4' : w4.ownsRow w3.heap.size 5 1 v4 (Mac.blk key info (i + 1)).length (vals .u8 (Mac.blk key info (i + 1))) := by rw [Mac.blk_length]; exact hown4
      obtain ⟨Z, cz, hvz, hcz, _, hZn, hZr, _⟩ := own_form hown4'
      subst hvz
      have HO4 : Hid (w4.ownsRow w2.heap.size 5 1 (.slice Z (Mac.blk key info (i + 1)).length cz) (Mac.blk key info (i + 1)).length (vals .u8 (Mac.blk key info (i + 1)))) := Lib.hid (own_lower hown4' hz23)
      have HB4 : Hid (Below w2.heap.size w2 w4) := Lib.hid (HB3.out.trans (hb4.mono hz23))
      have HZr := Lib.hid hZr
      have HX5 : Hid (RdB w4 w4.heap.size X (spreadTo key info N)) := Lib.hid ((HXr.out.below HB4.out).more HB4.out.size)
      clear hown4 hown4' hb4 hZr hZn HP3 HB3 HBw3 hfl ebl
      obtain ⟨H, hH⟩ : ∃ H : Nat, H = min (32 * i + 32) N := ⟨_, rfl⟩
      obtain ⟨L, hL0⟩ : ∃ L : Nat, L = min 32 (N - 32 * i) := ⟨_, rfl⟩
      have HCut := Lib.hid (spread_cut key info N i H L hlt hH hL0)
      have hmin1 : min ((32 * i + 32 : Nat) : Int) (N : Int) = (H : Int) := by omega
      have hmin2 : min (32 : Int) ((N - 32 * i : Nat) : Int) = (L : Int) := by omega
      have hH1 : 32 * i ≤ H := by omega
      have hH2 : H ≤ N := by omega
      have hL : L ≤ 32 := by omega
      have hmul : ∀ w, (binOp .mul 3 (.int .i64 32) (.int .i64 (i : Int))).run Tryd.prog w = .ok (.int .i64 ((32 * i : Nat) : Int)) w := fun w => mul_run 32 (i : Int) hwm w
      have hadd : ∀ w, (binOp .add 3 (.int .i64 ((32 * i : Nat) : Int)) (.int .i64 32)).run Tryd.prog w = .ok (.int .i64 ((32 * i + 32 : Nat) : Int)) w := fun w => add_run ((32 * i : Nat) : Int) 32 (by rw [IntKind.wrap_i64]; omega) w
      have hsub : ∀ w, (binOp .sub 3 (.int .i64 (N : Int)) (.int .i64 ((32 * i : Nat) : Int))).run Tryd.prog w = .ok (.int .i64 ((N - 32 * i : Nat) : Int)) w := fun w => by
        rw [sub_run (N : Int) ((32 * i : Nat) : Int) (by rw [IntKind.wrap_i64]; omega) w]
        congr 2
        omega
      have HM := Lib.hid hmul
      have HA := Lib.hid hadd
      have HS := Lib.hid hsub
      have HM1 := Lib.hid hmin1
      have HM2 := Lib.hid hmin2
      clear hmul hadd hsub hmin1 hmin2 hH hL0
      go_upto_region 13 with (fail)
      have hmul := HM.out
      have hadd := HA.out
      have hsub := HS.out
      have hmin1 := HM1.out
      have hmin2 := HM2.out
      refine region_inv (Rw w4.drew) (fun n => (kindsB key info N i H L n).is) (by kernel_rfl) (by kernel_rfl) (Below.refl _ _) ⟨?_, ?_, ?_, ?_, ?_, ?_, ?_, ?_, ?_, ?_, ?_, ?_, ?_, ?_, ?_, ?_, ?_, ?_, ?_, trivial⟩ ?_
      · exact ob_old ⟨by kernel_rfl, (at0 _ _), ⟨_, rfl, by exact (by decide : 59 < 78)⟩, (.inl rfl)⟩ 7 rfl (by kernel_rfl) (fun w' hr => ⟨spreadTo_Bs _ _ _, X, cx, congrArg (fun n => Value.slice X n cx) (spreadTo_length key info N).symm, by rw [spreadTo_length]; exact hcx, HX5.out.inRegion (Below.refl _ _) hr⟩)
      · exact ob_old ⟨by kernel_rfl, (atS (at0 _ _)), ⟨_, rfl, by exact (by decide : 60 < 78)⟩, (.inl rfl)⟩ 10 rfl (by kernel_rfl) (fun w' hr => rfl)
      · exact ob_arith ⟨by kernel_rfl, (atS (atS (at0 _ _))), ⟨_, rfl, by exact (by decide : 61 < 78)⟩, (.inl rfl)⟩ .mul (.const (.int .i64 32)) (.tmp 60) 32 (i : Int) ((32 * i : Nat) : Int) rfl (fun _ _ _ _ _ => rfl) (fun _ _ _ h hd => h.opd (j := 1) hd (by kernel_rfl) rfl) (fun _ => by simp [eqGuard]) hmul rfl
      · exact ob_old ⟨by kernel_rfl, (atS (atS (atS (at0 _ _)))), ⟨_, rfl, by exact (by decide : 62 < 78)⟩, (.inl rfl)⟩ 10 rfl (by kernel_rfl) (fun w' hr => rfl)
      · exact ob_arith ⟨by kernel_rfl, (atS (atS (atS (atS (at0 _ _))))), ⟨_, rfl, by exact (by decide : 63 < 78)⟩, (.inl rfl)⟩ .mul (.const (.int .i64 32)) (.tmp 62) 32 (i : Int) ((32 * i : Nat) : Int) rfl (fun _ _ _ _ _ => rfl) (fun _ _ _ h hd => h.opd (j := 3) hd (by kernel_rfl) rfl) (fun _ => by simp [eqGuard]) hmul rfl
      · exact ob_arith ⟨by kernel_rfl, (atS (atS (atS (atS (atS (at0 _ _)))))), ⟨_, rfl, by exact (by decide : 64 < 78)⟩, (.inl rfl)⟩ .add (.tmp 63) (.const (.int .i64 32)) ((32 * i : Nat) : Int) 32 ((32 * i + 32 : Nat) : Int) rfl (fun _ _ _ h hd => h.opd (j := 4) hd (by kernel_rfl) rfl) (fun _ _ _ _ _ => rfl) (fun _ => by simp [eqGuard]) hadd rfl
      · exact ob_old ⟨by kernel_rfl, (atS (atS (atS (atS (atS (atS (at0 _ _))))))), ⟨_, rfl, by exact (by decide : 65 < 78)⟩, (.inl rfl)⟩ 2 rfl (by kernel_rfl) (fun w' hr => rfl)
      · exact ob_min ⟨by kernel_rfl, (atS (atS (atS (atS (atS (atS (atS (at0 _ _)))))))), ⟨_, rfl, by exact (by decide : 66 < 78)⟩, (.inl rfl)⟩ (.tmp 64) (.tmp 65) ((32 * i + 32 : Nat) : Int) (N : Int) (H : Int) rfl (fun _ _ _ h hd => h.opd (j := 5) hd (by kernel_rfl) rfl) (fun _ _ _ h hd => h.opd (j := 6) hd (by kernel_rfl) rfl) hmin1 rfl
      · exact ob_cut ⟨by kernel_rfl, (atS (atS (atS (atS (atS (atS (atS (atS (at0 _ _))))))))), ⟨_, rfl, by exact (by decide : 67 < 78)⟩, (.inl rfl)⟩ 0 2 7 59 61 66 (spreadTo key info N) (32 * i) H rfl (by kernel_rfl) rfl (by kernel_rfl) rfl (by kernel_rfl) rfl rfl rfl rfl (by rw [HCut.out]; rfl) hH1 (by rw [spreadTo_length]; exact hH2)
      · exact ob_convB ⟨by kernel_rfl, (atS (atS (atS (atS (atS (atS (atS (atS (atS (at0 _ _)))))))))), ⟨_, rfl, by exact (by decide : 68 < 78)⟩, (.inl rfl)⟩ 8 67 ((Mac.blk key info (i + 1)).take L) rfl (by kernel_rfl) rfl rfl rfl
      · exact ob_old ⟨by kernel_rfl, (atS (atS (atS (atS (atS (atS (atS (atS (atS (atS (at0 _ _))))))))))), ⟨_, rfl, by exact (by decide : 69 < 78)⟩, (.inl rfl)⟩ 9 rfl (by kernel_rfl) (fun w' hr => ⟨Mac.blk_Bs _ _ _, Z, cz, rfl, hcz, HZr.out.inRegion (Below.refl _ _) hr⟩)
      · exact ob_old ⟨by kernel_rfl, (atS (atS (atS (atS (atS (atS (atS (atS (atS (atS (atS (at0 _ _)))))))))))), ⟨_, rfl, by exact (by decide : 70 < 78)⟩, (.inl rfl)⟩ 2 rfl (by kernel_rfl) (fun w' hr => rfl)
      · exact ob_old ⟨by kernel_rfl, (atS (atS (atS (atS (atS (atS (atS (atS (atS (atS (atS (atS (at0 _ _))))))))))))), ⟨_, rfl, by exact (by decide : 71 < 78)⟩, (.inl rfl)⟩ 10 rfl (by kernel_rfl) (fun w' hr => rfl)
      · exact ob_arith ⟨by kernel_rfl, (atS (atS (atS (atS (atS (atS (atS (atS (atS (atS (atS (atS (atS (at0 _ _)))))))))))))), ⟨_, rfl, by exact (by decide : 72 < 78)⟩, (.inl rfl)⟩ .mul (.const (.int .i64 32)) (.tmp 71) 32 (i : Int) ((32 * i : Nat) : Int) rfl (fun _ _ _ _ _ => rfl) (fun _ _ _ h hd => h.opd (j := 12) hd (by kernel_rfl) rfl) (fun _ => by simp [eqGuard]) hmul rfl
      · exact ob_arith ⟨by kernel_rfl, (atS (atS (atS (atS (atS (atS (atS (atS (atS (atS (atS (atS (atS (atS (at0 _ _))))))))))))))), ⟨_, rfl, by exact (by decide : 73 < 78)⟩, (.inl rfl)⟩ .sub (.tmp 70) (.tmp 72) (N : Int) ((32 * i : Nat) : Int) ((N - 32 * i : Nat) : Int) rfl (fun _ _ _ h hd => h.opd (j := 11) hd (by kernel_rfl) rfl) (fun _ _ _ h hd => h.opd (j := 13) hd (by kernel_rfl) rfl) (fun _ => by simp [eqGuard]) hsub rfl
      · exact ob_min ⟨by kernel_rfl, (atS (atS (atS (atS (atS (atS (atS (atS (atS (atS (atS (atS (atS (atS (atS (at0 _ _)))))))))))))))), ⟨_, rfl, by exact (by decide : 74 < 78)⟩, (.inl rfl)⟩ (.const (.int .i64 32)) (.tmp 73) 32 ((N - 32 * i : Nat) : Int) (L : Int) rfl (fun _ _ _ _ _ => rfl) (fun _ _ _ h hd => h.opd (j := 14) hd (by kernel_rfl) rfl) hmin2 rfl
      · exact ob_head ⟨by kernel_rfl, (atS (atS (atS (atS (atS (atS (atS (atS (atS (atS (atS (atS (atS (atS (atS (atS (at0 _ _))))))))))))))))), ⟨_, rfl, by exact (by decide : 75 < 78)⟩, (.inl rfl)⟩ 10 15 69 74 (Mac.blk key info (i + 1)) L rfl (by kernel_rfl) rfl (by kernel_rfl) rfl rfl rfl rfl (by rw [Mac.blk_length]; exact hL)
      · exact ob_convB ⟨by kernel_rfl, (atS (atS (atS (atS (atS (atS (atS (atS (atS (atS (atS (atS (atS (atS (atS (atS (atS (at0 _ _)))))))))))))))))), ⟨_, rfl, by exact (by decide : 76 < 78)⟩, (.inl rfl)⟩ 16 75 ((Mac.blk key info (i + 1)).take L) rfl (by kernel_rfl) rfl rfl rfl
      · exact ob_neq ⟨by kernel_rfl, (atS (atS (atS (atS (atS (atS (atS (atS (atS (atS (atS (atS (atS (atS (atS (atS (atS (atS (at0 _ _))))))))))))))))))), ⟨_, rfl, by exact (by decide : 77 < 78)⟩, (.inl rfl)⟩ 9 17 68 76 ((Mac.blk key info (i + 1)).take L) rfl (by kernel_rfl) rfl (by kernel_rfl) rfl rfl rfl rfl
      intro a' w5 hG hdf hsz hold hr
      have hv : a'.tmps.getD 77 undef = .bool false := hG 18 77 (by exact (by decide : 18 < 19)) rfl
      have he := act_eq [59, 60, 61, 62, 63, 64, 65, 66, 67, 68, 69, 70, 71, 72, 73, 74, 75, 76, 77] (by kernel_rfl) hdf hsz hold
      have hb5 : Below w4.heap.size w4 w5 := Below.trans ((Below.refl w4.heap.size w4).drew) hr
      simp only [List.foldl_cons, List.foldl_nil] at he
      rw [hv] at he
      generalize a'.tmps.getD 59 undef = q59 at he; generalize a'.tmps.getD 60 undef = q60 at he; generalize a'.tmps.getD 61 undef = q61 at he; generalize a'.tmps.getD 62 undef = q62 at he; generalize a'.tmps.getD 63 undef = q63 at he; generalize a'.tmps.getD 64 undef = q64 at he; generalize a'.tmps.getD 65 undef = q65 at he; generalize a'.tmps.getD 66 undef = q66 at he; generalize a'.tmps.getD 67 undef = q67 at he; generalize a'.tmps.getD 68 undef = q68 at he; generalize a'.tmps.getD 69 undef = q69 at he; generalize a'.tmps.getD 70 undef = q70 at he; generalize a'.tmps.getD 71 undef = q71 at he; generalize a'.tmps.getD 72 undef = q72 at he; generalize a'.tmps.getD 73 undef = q73 at he; generalize a'.tmps.getD 74 undef = q74 at he; generalize a'.tmps.getD 75 undef = q75 at he; generalize a'.tmps.getD 76 undef = q76 at he
      clear hG hdf hsz hold hr hv hmul hadd hsub hmin1 hmin2 HM HA HS HM1 HM2
      subst he
      have HO5 := Lib.hid (own_below HO4.out hb5)
      have HB5 : Hid (Below w2.heap.size w2 w5) := Lib.hid (HB4.out.trans (hb5.mono HB4.out.size))
      clear hb5
      simp only [Act.put, List.setIfInBounds_toArray, List.set_cons_succ, List.set_cons_zero]
      go_wp2
      go_roundw
      case rel => exact ⟨i + 1, by omega, by go_num, HO5.out, HB5.out⟩
      case measure => simp [intOf]; omega
    · have hd5 : decide (32 * (i : Int) < (N : Int)) = false := by simp; omega
      go_wp2
      go_ret
      exact ⟨rfl, HBw.out⟩
end Go.Proofs.YtfkkpbfoipfekaaDoor
