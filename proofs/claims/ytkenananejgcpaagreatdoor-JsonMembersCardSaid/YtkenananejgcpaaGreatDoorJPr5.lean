/-
  goOn: the next value of what was opened last is begun, or it is closed.
-/
import Derived.Test.YtkenananejgcpaaGreatDoorJPr4
namespace Go.Proofs.YtkenananejgcpaaGreatDoor.Jsn
open Go.RowKit Txt
/-- One more of what was opened last is done. -/
theorem row_done {W : World} {B g cap : Nat} {fs : List It} {P : Addr} {i j : Nat} (h : W.ownsRow B 129 2 (.slice (some ⟨g, 0, none⟩) (fs.length + 1 : Nat) cap) (fs ++ [(P, i)]).length (lvls (fs ++ [(P, i)]))) :
    (W.setCell ⟨g, fs.length * 2 + 1, none⟩ (.int .i64 (j : Nat))).ownsRow B 129 2 (.slice (some ⟨g, 0, none⟩) (fs.length + 1 : Nat) cap) (fs ++ [(P, j)]).length (lvls (fs ++ [(P, j)])) ∧ W.frozen? ⟨g, fs.length * 2 + 1, none⟩ = false := by
  have hl : (fs ++ [(P, i)]).length = fs.length + 1 := by simp
  have hl2 : (fs ++ [(P, j)]).length = fs.length + 1 := by simp
  rw [hl] at h
  rw [hl2]
  obtain ⟨h1, h2⟩ := h
  rcases h2 with ⟨_, h0⟩ | ⟨g', cap', cur, e, hb, hh, hc, hm, hs, ht⟩
  · omega
  · injection e with e1 e2 e3
    injection e1 with e1
    injection e1 with e1
    subst e1 e3
    have hlen := lvls_len fs
    refine ⟨⟨by rw [lvls_len, hl2], .inr ⟨g, cap, _, rfl, hb, blk_set (show Blk W g _ cur from hh) _ _, hc, hm, by simpa using hs, ?_⟩⟩, Lib.frozen_of_heap hh _⟩
    rw [lvls_snoc] at ht ⊢
    apply List.ext_getElem?
    intro k
    have hk := congrArg (fun l : List Value => l[k]?) ht
    change (List.take _ _)[k]? = _ at hk
    by_cases hlt : k < (fs.length + 1) * 2
    · rw [List.getElem?_take_of_lt hlt] at hk ⊢
      simp only [Array.getElem?_toList] at hk ⊢
      by_cases he : k = fs.length * 2 + 1
      · subst he
        rw [Array.getElem?_setIfInBounds_self_of_lt (by omega), List.getElem?_append_right (by omega), hlen]
        simp [lvl]
      · rw [Array.getElem?_setIfInBounds_ne (by omega), hk]
        by_cases hk2 : k < fs.length * 2
        · rw [List.getElem?_append_left (by omega), List.getElem?_append_left (by omega)]
        · obtain rfl : k = fs.length * 2 := by omega
          rw [List.getElem?_append_right (by omega), List.getElem?_append_right (by omega), hlen]
          simp [lvl]
    · rw [List.getElem?_take_eq_none (by omega), List.getElem?_eq_none (by rw [List.length_append, hlen]; simp [lvl]; omega)]
theorem wrapi {n : Int} (h0 : 0 ≤ n) (h1 : n ≤ 10000000) : IntKind.i64.wrap n = n := by rw [IntKind.wrap_i64]; omega
theorem wrap64i {n : Int} (h0 : 0 ≤ n) (h1 : n ≤ 10000000) : wrap64 n = n := by unfold wrap64; omega
theorem Reads.lists {w : World} {P : Addr} {v : V} (h : Reads w P v) : ∃ A ca B cb, Val5 w P v A ca B cb ∧ Mems w B v.mem ∧ (0 < v.list.length → A.isSome = true) ∧ ∀ i x, v.list[i]? = some x → Reads w ((A.getD default).add (i * 5)) x := by
  cases h with
  | mk _ k y t l m A ca B cb c0 c1 c2 c3 c4 hA hB hl hn hm => exact ⟨A, ca, B, cb, ⟨c0, c1, c2, c3, c4⟩, ⟨hB, hn, hm⟩, hA, hl⟩
set_option maxRecDepth 100000
set_option maxHeartbeats 2000000 in
/-- All values are done: it is closed. -/
theorem goOn_end (B pb : Nat) (l : List UInt8) (ln : Bool) (fs : List It) (P : Addr) (v : V) (w : World) (h : Pr w B pb l ln (fs ++ [(P, v.list.length + v.mem.length)])) (hr : Reads w P v) (hx : P.block < B) (hl : l.length ≤ 2000000) (hf : fs.length ≤ 100000) (hsz : v.size ≤ 100000) :
    Calls Tryz.prog 60 #[.pointer (some ⟨pb, 0, none⟩)] w fun e w' => e = .returned (.tuple #[]) ∧ Pr w' B pb (l ++ ((if v.list.length + v.mem.length = 0 then [] else nl ln fs.length) ++ [if v.kind = 5 then 93 else 125])) ln fs ∧ Below B w w' := by
  have hsum : v.list.length + v.mem.length ≤ 100000 := by
    have := v.size_eq
    have := sum_len V.size V.size_pos v.list
    have := sum_len (fun m : M => m.val.size) (fun m => m.val.size_pos) v.mem
    rw [sizeL_sum, sizeM_sum] at *
    omega
  obtain ⟨A, ca, B', cb, ⟨c0, c1, c2, c3, c4⟩, -⟩ := hr.five
  obtain ⟨ap, hpa, hback⟩ := pr_some h
  obtain ⟨bv, ov, hh, o1, o2, n1, n2, n3⟩ := pr_parts hpa
  have hB := hpa.1
  have hlt := pr_lt hpa
  obtain ⟨g, cap, rfl, hg, hcap, e0, e1, hrow⟩ := pop2 o2
  have d3 : w.cell? ⟨pb, 3, none⟩ = some (.slice (some ⟨g, 0, none⟩) (fs.length + 1 : Nat) cap) := cell_of_row _ _ 3 _ _ _ hh
  have HP := Lib.hid h
  have HR := Lib.hid hr
  clear h hr hpa hh o1 o2 n1 n2 n3 hrow hback c0 c1 c2
  generalize hn1 : v.list.length = a1 at *
  generalize hn2 : v.mem.length = a2 at *
  obtain ⟨ct, hct⟩ : ∃ ct : List UInt8, ct = ((if a1 + a2 = 0 then [] else nl ln fs.length) ++ [if v.kind = 5 then 93 else 125]) := ⟨_, rfl⟩
  rw [← hct]
  have HCT := Lib.hid hct
  clear hct
  have hself : (((a1 + a2 : Nat) : Int) == (a1 : Int) + (a2 : Int)) = true := by rw [beq_iff_eq]; omega
  have w5 : IntKind.i64.wrap ((a1 : Int) + (a2 : Int)) = (a1 : Int) + (a2 : Int) := wrapi (by omega) (by omega)
  obtain ⟨q, hq⟩ : ∃ q, q = fs.length := ⟨_, rfl⟩
  rw [← hq] at hcap e0 e1 d3
  have HQ := Lib.hid hq
  have hq0 : q ≤ 100000 := by omega
  clear hq
  have hq1 : (0 : Int) ≤ (q : Int) ∧ (q : Int) ≤ 10000000 := by omega
  have w1' : IntKind.i64.wrap (q : Int) = q := wrapi hq1.1 hq1.2
  have w1'' : IntKind.i64.wrap ((q : Int) + 1 - 1) = q := by rw [Int.add_sub_cancel]; exact w1'
  clear hq1
  have w2 : (q : Int) < (q : Int) + 1 := by omega
  have w3 : (0 : Int) ≤ (q : Int) := by omega
  go_enter Tryz.func60, Tryz.ntmps60
  go_wp2_with fail
  go_region
  go_wp2_with fail
  go_region
  go_wp2_with fail
  go_region
  go_wp2_with fail
  refine (close_any B pb l ln fs (P, a1 + a2) v _ (show Pr w.drew.drew.drew B pb l ln _ from HP.out) (HR.out.kept ((Below.refl w.heap.size w).drew.drew.drew) (Nat.le_refl _)) hx hl hf).mono ?_
  rintro e w9 ⟨rfl, hp9, hb9⟩
  go_wp2
  refine bodyPost_ret (results_none rfl _ _ _) rfl ?_
  exact ⟨rfl, by rw [HCT.out]; exact hp9, ((Below.refl B w).drew.drew.drew).trans hb9⟩
set_option maxHeartbeats 2000000 in
/-- The next value of an array. -/
theorem goOn_list (B pb : Nat) (l : List UInt8) (ln : Bool) (fs : List It) (P : Addr) (v : V) (W0 w : World) (i : Nat) (x : V) (h5 : v.kind = 5) (hxi : v.list[i]? = some x) (hm0 : v.mem = []) (ht : x.text.length ≤ 1000000) (h : Pr w B pb l ln (fs ++ [(P, i)])) (hr : Reads W0 P v) (h0 : W0.heap.size ≤ B) (hbw : Below B W0 w) (hl : l.length ≤ 500000) (hf : fs.length + 1 ≤ 100000) (hsz : v.size ≤ 100000) :
    Calls Tryz.prog 60 #[.pointer (some ⟨pb, 0, none⟩)] w fun e w' => e = .returned (.tuple #[]) ∧ (∃ A ca, W0.cell? ⟨P.block, P.off + 3, none⟩ = some (.slice (some A) (v.list.length : Nat) ca) ∧ Reads W0 (A.add (i * 5)) x ∧ Pr w' B pb (l ++ ((if i = 0 then [] else [44]) ++ nl ln (fs.length + 1) ++ beg x)) ln (if x.kind = 5 ∨ x.kind = 6 then fs ++ [(P, i + 1)] ++ [(A.add (i * 5), 0)] else fs ++ [(P, i + 1)])) ∧ Below B w w' := by
  have hsum : v.list.length + v.mem.length ≤ 100000 := by
    have := v.size_eq
    have := sum_len V.size V.size_pos v.list
    have := sum_len (fun m : M => m.val.size) (fun m => m.val.size_pos) v.mem
    rw [sizeL_sum, sizeM_sum] at *
    omega
  obtain ⟨A, ca, B', cb, ⟨a0, -, -, a3, a4⟩, -, hA, hlr⟩ := hr.lists
  have hilt : i < v.list.length := (List.getElem?_eq_some_iff.1 hxi).1
  obtain ⟨A, rfl⟩ := Option.isSome_iff_exists.1 (hA (by omega))
  have hrx := hlr i x hxi
  simp only [Option.getD_some] at hrx
  rw [h5] at a0
  have hm1 : v.mem.length = 0 := by rw [hm0]; rfl
  have hkeep : ∀ {w' : World} {a : Addr} {u : Value}, Below B W0 w' → W0.cell? a = some u → w'.cell? a = some u := fun hb hu => (hb.cell (Nat.lt_of_lt_of_le (lt_cell hu) h0)).trans hu
  have c0 := hkeep hbw a0
  have c3 := hkeep hbw a3
  have c4 := hkeep hbw a4
  obtain ⟨ap, hpa, hback⟩ := pr_some h
  obtain ⟨bv, ov, hh, o1, o2, n1, n2, n3⟩ := pr_parts hpa
  have hB := hpa.1
  have hlt := pr_lt hpa
  obtain ⟨g, cap, rfl, hg, hcap, e0, e1, hrow⟩ := pop2 o2
  have d3 : w.cell? ⟨pb, 3, none⟩ = some (.slice (some ⟨g, 0, none⟩) (fs.length + 1 : Nat) cap) := cell_of_row _ _ 3 _ _ _ hh
  obtain ⟨hrd, f1⟩ := row_done (j := i + 1) o2
  have hone : w.grownBy (w.setCell ⟨g, fs.length * 2 + 1, none⟩ (.int .i64 ((i + 1 : Nat) : Int))) (some g) := turned w g _ _
  have hpd : Pr (w.setCell ⟨g, fs.length * 2 + 1, none⟩ (.int .i64 ((i + 1 : Nat) : Int))) B pb l ln (fs ++ [(P, i + 1)]) ∧ Below B w (w.setCell ⟨g, fs.length * 2 + 1, none⟩ (.int .i64 ((i + 1 : Nat) : Int))) := ⟨hback _ _ _ ⟨hB, bv, _, (hone.block pb hlt (fun e => n2 e.symm)).trans hh, o1.kept hone (n3.elim (fun e => by cases e) (fun e => .inr (fun e' => e (by rw [e']; rfl)))), hrd⟩, (Below.refl B w).setCell (p := ⟨g, fs.length * 2 + 1, none⟩) (row_base o2 g rfl) _⟩
  have hcast : ((i + 1 : Nat) : Int) = (i : Int) + 1 := by omega
  rw [hcast] at hpd
  have HPD := Lib.hid hpd
  have HK := @hkeep
  have HBW := Lib.hid hbw
  have HX := Lib.hid hrx
  have hself : ((i : Int) == (v.list.length : Int) + (v.mem.length : Int)) = false := by rw [beq_eq_false_iff_ne]; omega
  have w7 : (i : Int) < (v.list.length : Int) := by omega
  have w8 : (0 : Int) ≤ (i : Int) := by omega
  obtain ⟨cm, hcm⟩ : ∃ cm : List UInt8, cm = if i = 0 then [] else [44] := ⟨_, rfl⟩
  have hcl : cm.length ≤ 1 := by rw [hcm]; split <;> simp
  have HCM := Lib.hid hcm
  rw [← hcm]
  obtain ⟨gs, hgs⟩ : ∃ gs : List It, gs = if x.kind = 5 ∨ x.kind = 6 then fs ++ [(P, i + 1)] ++ [(A.add (i * 5), 0)] else fs ++ [(P, i + 1)] := ⟨_, rfl⟩
  refine Calls.mono (R := fun e w' => e = .returned (.tuple #[]) ∧ Pr w' B pb (l ++ (cm ++ nl ln (fs.length + 1) ++ beg x)) ln gs ∧ Below B w w') ?_ (fun e w' h => ⟨h.1, ⟨A, ca, a3, hrx, by rw [← hgs]; exact h.2.1⟩, h.2.2⟩)
  have HGS := Lib.hid hgs
  have hnl : (nl ln (fs.length + 1)).length ≤ 200003 := by unfold nl; split <;> simp; omega
  obtain ⟨q, hq⟩ : ∃ q, q = fs.length := ⟨_, rfl⟩
  have hq1 : (0 : Int) ≤ (q : Int) ∧ (q : Int) ≤ 10000000 := by omega
  have hq5 : (0 : Int) ≤ (v.list.length : Int) + (v.mem.length : Int) ∧ (v.list.length : Int) + (v.mem.length : Int) ≤ 10000000 := by omega
  have hq6 : (0 : Int) ≤ (i : Int) + 1 ∧ (i : Int) + 1 ≤ 10000000 := by omega
  have w2 : (q : Int) < (q : Int) + 1 := by omega
  rw [← hq] at e0 e1 d3 f1 HPD
  have HQ := Lib.hid hq
  have HN := Lib.hid (show l.length ≤ 500000 ∧ fs.length + 1 ≤ 100000 ∧ x.text.length ≤ 1000000 ∧ cm.length ≤ 1 ∧ (nl ln (fs.length + 1)).length ≤ 200003 from ⟨hl, hf, ht, hcl, hnl⟩)
  have hi : (i = 0 ∧ ¬ (0 : Int) < (i : Int)) ∨ (i ≠ 0 ∧ (0 : Int) < (i : Int)) := by omega
  have w3 : (0 : Int) ≤ (q : Int) := by omega
  have w5 := wrapi hq5.1 hq5.2
  have w6' := wrap64i hq6.1 hq6.2
  have w1' : IntKind.i64.wrap (q : Int) = q := wrapi hq1.1 hq1.2
  have w1'' : IntKind.i64.wrap ((q : Int) + 1 - 1) = q := by rw [Int.add_sub_cancel]; exact w1'
  generalize hN1 : v.list.length = a1 at *
  generalize hN2 : v.mem.length = a2 at *
  clear hl hf ht hsum hsz hcap hg hlt hrx h hr hpa hh o1 o2 n1 n2 n3 hrow hback hrd hone hpd hbw hm1 hcm hcl hgs hq hq1 hq5 hq6 hnl hilt hcast hkeep
  go_enter Tryz.func60, Tryz.ntmps60
  go_wp2_with fail
  go_region
  go_wp2_with fail
  go_region
  go_wp2_with fail
  go_region
  have HL : Hid (l.length ≤ 500000) := Lib.hid HN.out.1
  obtain ⟨W1, hW1⟩ : ∃ W1, W1 = (w.setCell ⟨g, q * 2 + 1, none⟩ (.int .i64 ((i : Int) + 1))).drew.drew.drew := ⟨_, rfl⟩
  have HP1 : Hid (Pr W1 B pb l ln (fs ++ [(P, i + 1)])) := Lib.hid (by rw [hW1]; exact HPD.out.1)
  have HB1 : Hid (Below B w W1) := Lib.hid (by rw [hW1]; exact HPD.out.2.drew.drew.drew)
  have HI : Hid (∀ w2, Pr w2 B pb (l ++ cm) ln (fs ++ [(P, i + 1)]) → Below B w w2 → Calls Tryz.prog 61 #[.pointer (some ⟨pb, 0, none⟩)] w2 fun e w' => e = .returned (.tuple #[]) ∧ Pr w' B pb (l ++ cm ++ nl ln (fs.length + 1)) ln (fs ++ [(P, i + 1)]) ∧ Below B w w') := Lib.hid (fun w2 h1 h2 => by
    have hn := HN.out
    refine (newLine_any B pb _ ln _ w2 h1 (by rw [List.length_append]; omega) (by rw [List.length_append]; simp; omega)).mono ?_
    rintro e w' ⟨rfl, h3, h4⟩
    rw [List.length_append] at h3
    exact ⟨rfl, h3, h2.trans h4⟩)
  have HJ : Hid (∀ w2, Pr w2 B pb (l ++ cm ++ nl ln (fs.length + 1)) ln (fs ++ [(P, i + 1)]) → Below B w w2 → Calls Tryz.prog 59 #[.pointer (some ⟨pb, 0, none⟩), .pointer (some (A.add (i * 5)))] w2 fun e w' => e = .returned (.tuple #[]) ∧ Pr w' B pb (l ++ (cm ++ nl ln (fs.length + 1) ++ beg x)) ln gs ∧ Below B w w') := Lib.hid (fun w2 h1 h2 => by
    have hn := HN.out
    refine (begin_any B pb _ ln _ x (A.add (i * 5)) w2 h1 (HX.out.kept (HBW.out.trans h2) h0) (by omega) (by simp only [List.length_append]; omega) (by rw [List.length_append]; simp; omega)).mono ?_
    rintro e w' ⟨rfl, h3, h4⟩
    refine ⟨rfl, ?_, h2.trans h4⟩
    rw [HGS.out]
    simpa only [List.append_assoc] using h3)
  clear HGS HX HPD HN
  rcases hi with ⟨hi0, hi1⟩ | ⟨hi0, hi1⟩
  · rw [if_pos hi0] at HCM
    clear hi0
    go_wp2_with fail
    rw [← hW1]
    clear hW1
    refine (HI.out W1 (by rw [HCM.out, List.append_nil]; exact HP1.out) HB1.out).mono ?_
    rintro e w3 ⟨rfl, hp3, hb3⟩
    have HP3 := Lib.hid hp3
    have k0 := HK (HBW.out.trans hb3) a0
    have k3 := HK (HBW.out.trans hb3) a3
    have k4 := HK (HBW.out.trans hb3) a4
    have HB3 := Lib.hid hb3
    clear hp3 hb3 HI
    go_wp2_with fail
    refine (HJ.out w3 HP3.out HB3.out).mono ?_
    rintro e w4 ⟨rfl, hp4, hb4⟩
    go_wp2
    refine bodyPost_ret (results_none rfl _ _ _) rfl ?_
    exact ⟨rfl, hp4, hb4⟩
  · rw [if_neg hi0] at HCM
    clear hi0
    go_wp2_with fail
    rw [← hW1]
    clear hW1
    refine (put_byte B pb l ln _ 44 _ rfl _ HP1.out (by have := HL.out; omega)).mono ?_
    rintro e w2 ⟨rfl, hp2, hb2⟩
    have HP2 : Hid (Pr w2 B pb (l ++ cm) ln (fs ++ [(P, i + 1)])) := Lib.hid (by rw [HCM.out]; exact hp2)
    have HB2 := Lib.hid (HB1.out.trans hb2)
    clear hp2 hb2 HP1 HB1
    go_wp2_with fail
    refine (HI.out w2 HP2.out HB2.out).mono ?_
    rintro e w3 ⟨rfl, hp3, hb3⟩
    clear HP2 HB2
    have HP3 := Lib.hid hp3
    have k0 := HK (HBW.out.trans hb3) a0
    have k3 := HK (HBW.out.trans hb3) a3
    have k4 := HK (HBW.out.trans hb3) a4
    have HB3 := Lib.hid hb3
    clear hp3 hb3 HI
    go_wp2_with fail
    refine (HJ.out w3 HP3.out HB3.out).mono ?_
    rintro e w4 ⟨rfl, hp4, hb4⟩
    go_wp2
    refine bodyPost_ret (results_none rfl _ _ _) rfl ?_
    exact ⟨rfl, hp4, hb4⟩
end Go.Proofs.YtkenananejgcpaaGreatDoor.Jsn
