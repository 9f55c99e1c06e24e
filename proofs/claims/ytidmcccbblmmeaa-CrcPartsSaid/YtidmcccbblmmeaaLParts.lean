/-
  The walk of the statement CrcParts: whatever the parts it returns true, and nothing that was there before has changed.
-/
import Derived.Test.YtidmcccbblmmeaaReg3
import Derived.Deep.CutRange
namespace Go.Proofs.Ytidmcccbblmmeaa
open Go.RowKit
theorem Parts.take {w : World} {B : Nat} {A : Option Addr} {ps : List (List Nat)} (h : Parts w B A ps) (n : Nat) : Parts w B A (ps.take n) := fun i hi => by
  rw [List.length_take] at hi
  have e : (ps.take n).getD i [] = ps.getD i [] := by rw [List.getD_eq_getElem?_getD, List.getElem?_take, if_pos (by omega), ← List.getD_eq_getElem?_getD]
  rw [e]
  exact h i (by omega)
def kindsP (g n k c : Nat) (ad : Addr) (F : List Nat) : List Kind := [.val (.pointer (some ⟨g, 0, none⟩)), .val (.int .u32 (Crc.sum F : Nat)), .val (.int .i64 (Crc.sum F : Nat)), .val (.slice (some ad) n c), .val (.int .i64 (k : Int)), .val (.int .i64 ((k : Int) + 1)), .val (.slice (some ad) (k + 1) c), bytesK F, .val (.int .i64 (Crc.sum F : Nat)), .val (.bool false)]
set_option maxRecDepth 100000
set_option maxHeartbeats 1000000 in
theorem crcParts_any (w : World) (A : Option Addr) (c : Nat) (ps : List (List Nat)) (hP : Parts w w.heap.size A ps) (hNil : ∀ i, i < ps.length → ∀ ad Ai n ci, A = some ad → w.cell? (ad.add i) = some (.slice Ai n ci) → Ai = none → ci = 0) (hBs : ∀ p ∈ ps, Crc.Bs p) (hc : ps.length ≤ c) (hm : ps.length ≤ 9223372036854775807) :
    Calls Try.prog 4 #[.slice A ps.length c] w fun e w' => e = .returned (.bool true) ∧ Below w.heap.size w w' := by
  have HP := Lib.hid hP
  have HNil := Lib.hid hNil
  have HBs := Lib.hid hBs
  clear hP hNil hBs
  go_enter Try.func4, Try.ntmps4
  go_wp2_with fail
  refine (anchor_any w).mono ?_
  rintro e w1 ⟨rfl, hb1⟩
  have HB1 := Lib.hid hb1
  have hz1 := hb1.size
  clear hb1
  by_cases hlen : 20 < ps.length
  · go_wp2
    go_ret
    exact ⟨rfl, HB1.out⟩
  have hd1 : decide ((20 : Int) < (ps.length : Int)) = false := by simp; omega
  go_wp2_with fail
  refine (new_any w1).mono ?_
  rintro e w2 ⟨rfl, hw2⟩
  have HH2 : Hid (Hst w2 w1.heap.size 4294967295) := Lib.hid (by rw [← hw2]; exact Blk.new w1 44 _)
  have HB2 : Hid (Below w.heap.size w w2) := Lib.hid (by rw [← hw2]; exact HB1.out.alloc hz1 _)
  clear hw2
  generalize hg : w1.heap.size = g at *
  clear hg HB1
  go_wp2
  go_loopw [14] (fun i wr => ∃ k : Nat, k ≤ ps.length ∧ i = .int .i64 k ∧ (ps.take k).flatten.length ≤ 200 * k ∧ Hst wr g (Crc.run 4294967295 (ps.take k).flatten) ∧ Below w.heap.size w wr) (fun i _ => ps.length - (intOf i).toNat)
  case atStart => exact ⟨0, by omega, rfl, by simp, by simpa [Crc.run_nil] using HH2.out, HB2.out⟩
  case round =>
    obtain ⟨k, hk, rfl, hle, hH, hbel⟩ := hrel
    clear HH2 HB2
    have hzg : g < wr.heap.size := hH.lt
    have hzw := hbel.size
    have HH := Lib.hid hH
    have HB := Lib.hid hbel
    have hst : Crc.run 4294967295 (ps.take k).flatten < 4294967296 := Crc.run_lt _ (by decide) (Crc.Bs.flat fun p hp => HBs.out p (List.mem_of_mem_take hp))
    clear hH hbel
    by_cases hlt : k < ps.length
    · obtain ⟨ad, Ai, ci, rfl, hadb, hcell, hci, hrd⟩ := HP.out k hlt
      have hcl : wr.cell? (ad.add k) = some (.slice Ai (ps.getD k []).length ci) := (HB.out.cell (by rw [block_add]; exact hadb)).trans hcell
      have HR := Lib.hid (hrd.rd HB.out hz1 hzw)
      have HN : Hid ((ps.take (k + 1)).flatten = (ps.take k).flatten ++ ps.getD k []) := Lib.hid (take_flat ps k hlt)
      have HBp : Hid (Crc.Bs (ps.getD k [])) := Lib.hid (HBs.out _ (by rw [List.getD_eq_getElem?_getD, List.getElem?_eq_getElem hlt]; simp))
      have HBF : Hid (Crc.Bs (ps.take (k + 1)).flatten) := Lib.hid (Crc.Bs.flat fun p hp => HBs.out p (List.mem_of_mem_take hp))
      have HS : Hid (Crc.run 4294967295 (ps.take (k + 1)).flatten = Crc.run (Crc.run 4294967295 (ps.take k).flatten) (ps.getD k [])) := Lib.hid (by rw [HN.out, Crc.run_append])
      clear hcell hrd
      generalize ps.getD k [] = pk at *
      generalize Crc.run 4294967295 (ps.take k).flatten = st at *
      by_cases hpl : 200 < pk.length
      · go_wp2
        go_ret
        exact ⟨rfl, HB.out⟩
      · have hd2 : decide ((200 : Int) < (pk.length : Int)) = false := by simp; omega
        go_wp2_with fail
        refine (write_any wr g st Ai ci pk HH.out hst HR.out HBp.out (by omega)).mono ?_
        rintro e w3 ⟨rfl, hH3, hg3⟩
        have HH3 : Hid (Hst w3 g (Crc.run 4294967295 (ps.take (k + 1)).flatten)) := Lib.hid (by rw [HS.out]; exact hH3)
        have HB3 : Hid (Below w.heap.size w w3) := Lib.hid (HB.out.grown hg3 HB.out.size (fun j hj => by injection hj with hj; omega))
        have hz3 : g < w3.heap.size := hH3.lt
        have hzw3 := HB3.out.size
        have hle' : (ps.take (k + 1)).flatten.length ≤ 200 * (k + 1) := by rw [HN.out, List.length_append]; omega
        clear hH3 hg3 HH HR HS HN HB
        generalize hF : (ps.take (k + 1)).flatten = F at *
        have HF := Lib.hid hF
        clear hF
        have HW : Hid (IntKind.i64.wrap ((k : Int) + 1) = (k : Int) + 1) := Lib.hid (by rw [IntKind.wrap_i64]; omega)
        have hbr : ∀ w', Rw w3.drew w' → Below w3.heap.size w3 w' := fun w' hr => Below.trans ((Below.refl w3.heap.size w3).drew) hr
        have hF4 : Crc.run 4294967295 F < 4294967296 := Crc.run_lt _ (by decide) HBF.out
        have HC1 : Hid (∀ v w', Rw w3.drew w' → v = .pointer (some ⟨g, 0, none⟩) → Calls Try.prog 13 #[v] w' fun e w'' => ∃ r, e = .returned r ∧ r = .int .u32 (Crc.sum F : Nat) ∧ Below w'.heap.size w' w'') := Lib.hid (fun v w' hr e => by
          subst e
          refine (hsum_any w' g _ (Blk.below HH3.out (hbr w' hr) hz3) hF4).mono ?_
          rintro e w'' ⟨rfl, rfl⟩
          exact ⟨_, rfl, rfl, Below.refl _ _⟩)
        have HC2 : Hid (∀ v w', Rw w3.drew w' → v = .slice (some ad) (k + 1) c → Calls Try.prog 14 #[v] w' fun e w'' => ∃ r, e = .returned r ∧ (bytesK F).is w'' r ∧ Below w'.heap.size w' w'') := Lib.hid (fun v w' hr e => by
          subst e
          have hb' : Below w.heap.size w w' := HB3.out.trans ((hbr w' hr).mono hzw3)
          have hl1 : (ps.take (k + 1)).length = k + 1 := by rw [List.length_take]; omega
          have hj := join_any w' (some ad) c (ps.take (k + 1)) ((HP.out.below hb' hb'.size).take (k + 1)) (fun i hi ad' Ai n ci e hce hn => HNil.out i (by rw [hl1] at hi; omega) ad' Ai n ci e (by
            obtain ⟨ad2, _, _, e2, h2, _⟩ := HP.out i (by rw [hl1] at hi; omega)
            rw [e] at e2
            injection e2 with e2
            subst e2
            rw [← hb'.cell (by rw [block_add]; exact h2)]
            exact hce) hn) (by omega) (by rw [HF.out]; omega)
          rw [hl1] at hj
          refine hj.mono ?_
          rintro e w'' ⟨v, rfl, hown, hb''⟩
          rw [HF.out] at hown
          obtain ⟨X, cx, hv, _, _, _, hXr, _⟩ := own_form hown
          exact ⟨v, rfl, ⟨X, cx, hv, hXr⟩, hb''⟩)
        have HC3 : Hid (∀ v w', Rw w3.drew w' → (bytesK F).is w' v → Calls Try.prog 10 #[v] w' fun e w'' => ∃ r, e = .returned r ∧ r = .int .i64 (Crc.sum F : Nat) ∧ Below w'.heap.size w' w'') := Lib.hid (fun v w' hr e => by
          obtain ⟨X, cx, rfl, hXr⟩ := e
          refine (ref_any w' _ X cx F hXr HBF.out (by omega)).mono ?_
          rintro e w'' ⟨rfl, rfl⟩
          exact ⟨_, rfl, rfl, Below.refl _ _⟩)
        clear hbr hF4
        go_upto_region 12 with (fail)
        refine region_inv (Rw w3.drew) (fun i => (kinds (kindsP g ps.length k c ad F) i).is) (by kernel_rfl) (by kernel_rfl) (Below.refl _ _) ⟨?_, ?_, ?_, ?_, ?_, ?_, ?_, ?_, ?_, ?_, trivial⟩ ?_
        · exact ob_old ⟨by kernel_rfl, (at0 _ _), ⟨_, rfl, by exact (by decide : 25 < 41)⟩, (.inl rfl)⟩ 3 rfl (by kernel_rfl) (fun _ _ => rfl)
        · exact ob_call1 ⟨by kernel_rfl, (atS (at0 _ _)), ⟨_, rfl, by exact (by decide : 26 < 41)⟩, (.inl rfl)⟩ 13 _ _ rfl (Kind.val (.pointer (some ⟨g, 0, none⟩))).is (ev_tmp (j := 0) (by kernel_rfl) rfl rfl) (fun _ _ => enter13 _ _) (fun v w' hr e => HC1.out v w' hr e)
        · exact ob_convert ⟨by kernel_rfl, (atS (atS (at0 _ _))), ⟨_, rfl, by exact (by decide : 27 < 41)⟩, (.inl rfl)⟩ 24 3 _ rfl _ _ (ev_tmp (j := 1) (by kernel_rfl) rfl rfl) (conv_run (Crc.sum_lt F)) rfl
        · exact ob_old ⟨by kernel_rfl, (atS (atS (atS (at0 _ _)))), ⟨_, rfl, by exact (by decide : 28 < 41)⟩, (.inl rfl)⟩ 0 rfl (by kernel_rfl) (fun _ _ => rfl)
        · exact ob_old ⟨by kernel_rfl, (atS (atS (atS (atS (at0 _ _))))), ⟨_, rfl, by exact (by decide : 29 < 41)⟩, (.inl rfl)⟩ 4 rfl (by kernel_rfl) (fun _ _ => rfl)
        · exact ob_bin ⟨by kernel_rfl, (atS (atS (atS (atS (atS (at0 _ _)))))), ⟨_, rfl, by exact (by decide : 30 < 41)⟩, (.inl rfl)⟩ .add 3 3 _ _ rfl _ (.int .i64 1) (.int .i64 ((k : Int) + 1)) (ev_tmp (j := 4) (by kernel_rfl) rfl rfl) (ev_const _) (guard_any _ _ _ _ _ _ _ _) (add_run _ _ HW.out) rfl
        · exact ob_head ⟨by kernel_rfl, (atS (atS (atS (atS (atS (atS (at0 _ _))))))), ⟨_, rfl, by exact (by decide : 31 < 41)⟩, (.inl rfl)⟩ 28 _ _ rfl (.slice (some ad) ps.length c) (.int .i64 ((k : Int) + 1)) (.slice (some ad) (k + 1) c) (ev_tmp (j := 3) (by kernel_rfl) rfl rfl) (ev_tmp (j := 5) (by kernel_rfl) rfl rfl) (slice_to28 (some ad) ps.length c (k + 1) (by omega)) rfl
        · exact ob_call1 ⟨by kernel_rfl, (atS (atS (atS (atS (atS (atS (atS (at0 _ _)))))))), ⟨_, rfl, by exact (by decide : 32 < 41)⟩, (.inl rfl)⟩ 14 _ _ rfl (Kind.val (.slice (some ad) (k + 1) c)).is (ev_tmp (j := 6) (by kernel_rfl) rfl rfl) (fun _ _ => enter14 _ _) (fun v w' hr e => HC2.out v w' hr e)
        · exact ob_call1 ⟨by kernel_rfl, (atS (atS (atS (atS (atS (atS (atS (atS (at0 _ _))))))))), ⟨_, rfl, by exact (by decide : 33 < 41)⟩, (.inl rfl)⟩ 10 _ _ rfl (bytesK F).is (ev_tmp (j := 7) (by kernel_rfl) rfl rfl) (fun _ _ => enter10 _ _) (fun v w' hr e => HC3.out v w' hr e)
        · exact ob_bin ⟨by kernel_rfl, (atS (atS (atS (atS (atS (atS (atS (atS (atS (at0 _ _)))))))))), ⟨_, rfl, by exact (by decide : 34 < 41)⟩, (.inl rfl)⟩ .neq 3 3 _ _ rfl _ _ _ (ev_tmp (j := 2) (by kernel_rfl) rfl rfl) (ev_tmp (j := 8) (by kernel_rfl) rfl rfl) (guard_any _ _ _ _ _ _ _ _) (neq_run _) rfl
        · intro a' w' hG hdf hsz hold hr
          have hv : a'.tmps.getD 34 undef = .bool false := hG 9 34 (by exact (by decide : 9 < 10)) rfl
          have he := act_eq [25, 26, 27, 28, 29, 30, 31, 32, 33, 34] (by kernel_rfl) hdf hsz hold
          have hb5 : Below w3.heap.size w3 w' := Below.trans ((Below.refl w3.heap.size w3).drew) hr
          simp only [List.foldl_cons, List.foldl_nil] at he
          rw [hv] at he
          generalize a'.tmps.getD 25 undef = q25 at he; generalize a'.tmps.getD 26 undef = q26 at he; generalize a'.tmps.getD 27 undef = q27 at he; generalize a'.tmps.getD 28 undef = q28 at he; generalize a'.tmps.getD 29 undef = q29 at he; generalize a'.tmps.getD 30 undef = q30 at he; generalize a'.tmps.getD 31 undef = q31 at he; generalize a'.tmps.getD 32 undef = q32 at he; generalize a'.tmps.getD 33 undef = q33 at he
          clear hG hdf hsz hold hr hv
          subst he
          have HH5 : Hid (Hst w' g (Crc.run 4294967295 F)) := Lib.hid (Blk.below HH3.out hb5 hz3)
          have HB5 : Hid (Below w.heap.size w w') := Lib.hid (HB3.out.trans (hb5.mono hzw3))
          clear hb5
          simp only [Act.put, List.setIfInBounds_toArray, List.set_cons_succ, List.set_cons_zero]
          go_wp2
          go_roundw
          case rel => exact ⟨k + 1, by omega, by go_num, by rw [HF.out]; exact hle', by rw [HF.out]; exact HH5.out, HB5.out⟩
          case measure => simp [intOf]; omega
    · obtain rfl : k = ps.length := by omega
      rw [List.take_length] at HH hle hst
      clear hlt hk
      have HT := Lib.hid hst
      clear hst
      go_wp2_with fail
      refine (sum_any wr A c ps (HP.out.below HB.out hzw) HBs.out hm (by omega)).mono ?_
      rintro e w5 ⟨rfl, hb5⟩
      have HH5 : Hid (Hst w5 g (Crc.run 4294967295 ps.flatten)) := Lib.hid (Blk.below HH.out hb5 hzg)
      have HB5 := Lib.hid (HB.out.trans (hb5.mono hzw))
      clear hb5
      have HE : Hid ((Crc.sum ps.flatten : Nat) = 4294967295 - Crc.run 4294967295 ps.flatten) := Lib.hid rfl
      generalize Crc.sum ps.flatten = S at *
      go_wp2_with fail
      refine (hsum_any w5 g _ HH5.out HT.out).mono ?_
      rintro e w6 ⟨rfl, rfl⟩
      rw [← HE.out]
      go_wp2
      go_ret
      exact ⟨rfl, HB5.out⟩
end Go.Proofs.Ytidmcccbblmmeaa
