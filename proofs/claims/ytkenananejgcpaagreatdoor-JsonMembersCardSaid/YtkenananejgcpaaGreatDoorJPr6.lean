/-
  goOn of an object.
-/
import Derived.Test.YtkenananejgcpaaGreatDoorJPr5
namespace Go.Proofs.YtkenananejgcpaaGreatDoor.Jsn
open Go.RowKit Txt
theorem qb_len (y : UInt8) : (qb y).length ≤ 6 := by
  unfold qb
  split
  · simp
  · split <;> simp
theorem flat_len : ∀ q : List UInt8, (q.flatMap qb).length ≤ 6 * q.length
  | [] => by simp
  | y :: q => by
    have := flat_len q
    have := qb_len y
    simp only [List.flatMap_cons, List.length_append, List.length_cons]
    omega
theorem quote_len (m : List UInt8) (h : m.length ≤ 1000000) : (quote m).length ≤ 6000002 := by
  have := flat_len m
  unfold quote
  simp only [List.length_append, List.length_cons, List.length_nil]
  omega
set_option maxRecDepth 100000
set_option maxHeartbeats 2000000 in
/-- The next member of an object. -/
theorem goOn_mem (B pb : Nat) (l : List UInt8) (ln : Bool) (fs : List It) (P : Addr) (v : V) (W0 w : World) (i : Nat) (x : M) (h6 : v.kind = 6) (hxi : v.mem[i]? = some x) (hm0 : v.list = []) (hnm : x.name.length ≤ 1000000) (hql : (quote x.name).length ≤ 1000000) (ht : x.val.text.length ≤ 1000000) (h : Pr w B pb l ln (fs ++ [(P, i)])) (hr : Reads W0 P v) (h0 : W0.heap.size ≤ B) (hbw : Below B W0 w) (hl : l.length ≤ 500000) (hf : fs.length + 1 ≤ 100000) (hsz : v.size ≤ 100000) :
    Calls Tryz.prog 60 #[.pointer (some ⟨pb, 0, none⟩)] w fun e w' => e = .returned (.tuple #[]) ∧ (∃ A ca, W0.cell? ⟨P.block, P.off + 4, none⟩ = some (.slice (some A) (v.mem.length : Nat) ca) ∧ Reads W0 (A.add (i * 6 + 1)) x.val ∧ Pr w' B pb (l ++ ((if i = 0 then [] else [44]) ++ nl ln (fs.length + 1) ++ (quote x.name ++ [58] ++ if ln then [32] else []) ++ beg x.val)) ln (if x.val.kind = 5 ∨ x.val.kind = 6 then fs ++ [(P, i + 1)] ++ [(A.add (i * 6 + 1), 0)] else fs ++ [(P, i + 1)])) ∧ Below B w w' := by
  have hsum : v.list.length + v.mem.length ≤ 100000 := by
    have := v.size_eq
    have := sum_len V.size V.size_pos v.list
    have := sum_len (fun m : M => m.val.size) (fun m => m.val.size_pos) v.mem
    rw [sizeL_sum, sizeM_sum] at *
    omega
  obtain ⟨A', ca', B', ca, ⟨a0, -, -, a3, a4⟩, hM, -, -⟩ := hr.lists
  have hilt : i < v.mem.length := (List.getElem?_eq_some_iff.1 hxi).1
  obtain ⟨A, rfl⟩ := Option.isSome_iff_exists.1 (hM.ok (by omega))
  have hrx := hM.val i x hxi
  have hnx := hM.name i x hxi
  simp only [Option.getD_some] at hrx hnx
  rw [h6] at a0
  have hm1 : v.list.length = 0 := by rw [hm0]; rfl
  have hms := mk_size
  have hmt := mk_toList
  have hkeep : ∀ {w' : World} {a : Addr} {u : Value}, Below B W0 w' → W0.cell? a = some u → w'.cell? a = some u := fun hb hu => (hb.cell (Nat.lt_of_lt_of_le (lt_cell hu) h0)).trans hu
  have c0 := hkeep hbw a0
  have c3 := hkeep hbw a3
  have c4 := hkeep hbw a4
  obtain ⟨ap, hpa, hback⟩ := pr_some h
  obtain ⟨bv, ov, hh, o1, o2, n1, n2, n3⟩ := pr_parts hpa
  have hB := hpa.1
  have hlt := pr_lt hpa
  obtain ⟨g, cap, rfl, hg, hcap, e0, e1, hrow⟩ := pop2 o2
  have d3 : w.cell? ⟨pb, 3, none⟩ = some (.slice (some ⟨g, 0, none⟩) (fs.length + 1 : Nat) cap) := cell_of_row _ _ 3 _ _ _ hh
  obtain ⟨hrd, f1⟩ := row_done (j := i + 1) o2
  have hone : w.grownBy (w.setCell ⟨g, fs.length * 2 + 1, none⟩ (.int .i64 ((i + 1 : Nat) : Int))) (some g) := turned w g _ _
  have hpd : Pr (w.setCell ⟨g, fs.length * 2 + 1, none⟩ (.int .i64 ((i + 1 : Nat) : Int))) B pb l ln (fs ++ [(P, i + 1)]) ∧ Below B w (w.setCell ⟨g, fs.length * 2 + 1, none⟩ (.int .i64 ((i + 1 : Nat) : Int))) := ⟨hback _ _ _ ⟨hB, bv, _, (hone.block pb hlt (fun e => n2 e.symm)).trans hh, o1.kept hone (n3.elim (fun e => by cases e) (fun e => .inr (fun e' => e (by rw [e']; rfl)))), hrd⟩, (Below.refl B w).setCell (p := ⟨g, fs.length * 2 + 1, none⟩) (row_base o2 g rfl) _⟩
  have hcast : ((i + 1 : Nat) : Int) = (i : Int) + 1 := by omega
  rw [hcast] at hpd
  have HPD := Lib.hid hpd
  have HK := @hkeep
  have HBW := Lib.hid hbw
  have HX := Lib.hid hrx
  have hself : ((i : Int) == (v.list.length : Int) + (v.mem.length : Int)) = false := by rw [beq_eq_false_iff_ne]; omega
  have w7 : (i : Int) < (v.mem.length : Int) := by omega
  have w8 : (0 : Int) ≤ (i : Int) := by omega
  obtain ⟨nm, hnmd⟩ : ∃ nm : List UInt8, nm = (quote x.name ++ [58] ++ if ln then [32] else []) := ⟨_, rfl⟩
  have hnml : nm.length ≤ 1000002 := by rw [hnmd]; cases ln <;> simp <;> omega
  rw [← hnmd]
  have HNM := Lib.hid hnmd
  have hql2 : (quote x.name).length ≤ 6000002 := by omega
  obtain ⟨cm, hcm⟩ : ∃ cm : List UInt8, cm = if i = 0 then [] else [44] := ⟨_, rfl⟩
  have hcl : cm.length ≤ 1 := by rw [hcm]; split <;> simp
  have HCM := Lib.hid hcm
  rw [← hcm]
  obtain ⟨gs, hgs⟩ : ∃ gs : List It, gs = if x.val.kind = 5 ∨ x.val.kind = 6 then fs ++ [(P, i + 1)] ++ [(A.add (i * 6 + 1), 0)] else fs ++ [(P, i + 1)] := ⟨_, rfl⟩
  refine Calls.mono (R := fun e w' => e = .returned (.tuple #[]) ∧ Pr w' B pb (l ++ (cm ++ nl ln (fs.length + 1) ++ nm ++ beg x.val)) ln gs ∧ Below B w w') ?_ (fun e w' h => ⟨h.1, ⟨A, ca, a4, hrx, by rw [← hgs]; exact h.2.1⟩, h.2.2⟩)
  have HGS := Lib.hid hgs
  have hnl : (nl ln (fs.length + 1)).length ≤ 200003 := by unfold nl; split <;> simp; omega
  obtain ⟨q, hq⟩ : ∃ q, q = fs.length := ⟨_, rfl⟩
  have hq1 : (0 : Int) ≤ (q : Int) ∧ (q : Int) ≤ 10000000 := by omega
  have hq5 : (0 : Int) ≤ (v.list.length : Int) + (v.mem.length : Int) ∧ (v.list.length : Int) + (v.mem.length : Int) ≤ 10000000 := by omega
  have hq6 : (0 : Int) ≤ (i : Int) + 1 ∧ (i : Int) + 1 ≤ 10000000 := by omega
  have w2 : (q : Int) < (q : Int) + 1 := by omega
  rw [← hq] at e0 e1 d3 f1 HPD
  have HQ := Lib.hid hq
  have HN := Lib.hid (show l.length ≤ 500000 ∧ fs.length + 1 ≤ 100000 ∧ x.val.text.length ≤ 1000000 ∧ cm.length ≤ 1 ∧ (nl ln (fs.length + 1)).length ≤ 200003 ∧ x.name.length ≤ 1000000 ∧ nm.length ≤ 1000002 from ⟨hl, hf, ht, hcl, hnl, hnm, hnml⟩)
  have hi : (i = 0 ∧ ¬ (0 : Int) < (i : Int)) ∨ (i ≠ 0 ∧ (0 : Int) < (i : Int)) := by omega
  have w3 : (0 : Int) ≤ (q : Int) := by omega
  have w5 := wrapi hq5.1 hq5.2
  have w6' := wrap64i hq6.1 hq6.2
  have w1' : IntKind.i64.wrap (q : Int) = q := wrapi hq1.1 hq1.2
  have w1'' : IntKind.i64.wrap ((q : Int) + 1 - 1) = q := by rw [Int.add_sub_cancel]; exact w1'
  generalize hN1 : v.list.length = a1 at *
  generalize hN2 : v.mem.length = a2 at *
  clear hnm hql hnml hnmd hl hf ht hsum hsz hcap hg hlt hrx h hr hpa hh o1 o2 n1 n2 n3 hrow hback hrd hone hpd hbw hm1 hcm hcl hgs hq hq1 hq5 hq6 hnl hilt hcast hkeep
  go_enter Tryz.func60, Tryz.ntmps60
  go_wp2_with fail
  go_region
  go_wp2_with fail
  go_region
  go_wp2_with fail
  go_region
  have HL : Hid (l.length ≤ 500000) := Lib.hid HN.out.1
  obtain ⟨W1, hW1⟩ : ∃ W1, W1 = (w.setCell ⟨g, q * 2 + 1, none⟩ (.int .i64 ((i : Int) + 1))).drew.drew.drew := ⟨_, rfl⟩
  have HP1 : Hid (Pr W1 B pb l ln (fs ++ [(P, i + 1)])) := Lib.hid (by rw [hW1]; exact HPD.out.1)
  have HB1 : Hid (Below B w W1) := Lib.hid (by rw [hW1]; exact HPD.out.2.drew.drew.drew)
  have HI : Hid (∀ w2, Pr w2 B pb (l ++ cm) ln (fs ++ [(P, i + 1)]) → Below B w w2 → Calls Tryz.prog 61 #[.pointer (some ⟨pb, 0, none⟩)] w2 fun e w' => e = .returned (.tuple #[]) ∧ Pr w' B pb (l ++ cm ++ nl ln (fs.length + 1)) ln (fs ++ [(P, i + 1)]) ∧ Below B w w') := Lib.hid (fun w2 h1 h2 => by
    have hn := HN.out
    refine (newLine_any B pb _ ln _ w2 h1 (by rw [List.length_append]; omega) (by rw [List.length_append]; simp; omega)).mono ?_
    rintro e w' ⟨rfl, h3, h4⟩
    rw [List.length_append] at h3
    exact ⟨rfl, h3, h2.trans h4⟩)
  have HJ : Hid (∀ w2, Pr w2 B pb (l ++ cm ++ nl ln (fs.length + 1) ++ nm) ln (fs ++ [(P, i + 1)]) → Below B w w2 → Calls Tryz.prog 59 #[.pointer (some ⟨pb, 0, none⟩), .pointer (some ((A.add (i * 6)).add 1))] w2 fun e w' => e = .returned (.tuple #[]) ∧ Pr w' B pb (l ++ (cm ++ nl ln (fs.length + 1) ++ nm ++ beg x.val)) ln gs ∧ Below B w w') := Lib.hid (fun w2 h1 h2 => by
    have hn := HN.out
    rw [add_add]
    refine (begin_any B pb _ ln _ x.val (A.add (i * 6 + 1)) w2 h1 (HX.out.kept (HBW.out.trans h2) h0) (by omega) (by simp only [List.length_append]; omega) (by rw [List.length_append]; simp; omega)).mono ?_
    rintro e w' ⟨rfl, h3, h4⟩
    refine ⟨rfl, ?_, h2.trans h4⟩
    rw [HGS.out]
    simpa only [List.append_assoc] using h3)
  have HM : Hid (∀ w2, Pr w2 B pb (l ++ cm ++ nl ln (fs.length + 1)) ln (fs ++ [(P, i + 1)]) → Below B w w2 → Calls Tryz.prog 83 #[.pointer (some ⟨pb, 0, none⟩), .string (mk x.name)] w2 fun e w' => e = .returned (.tuple #[]) ∧ Pr w' B pb (l ++ cm ++ nl ln (fs.length + 1) ++ nm) ln (fs ++ [(P, i + 1)]) ∧ Below B w w') := Lib.hid (fun w2 h1 h2 => by
    have hn := HN.out
    refine (name_any B pb _ ln _ x.name w2 h1 (by simp only [List.length_append]; omega) hn.2.2.2.2.2.1 hql2).mono ?_
    rintro e w' ⟨rfl, h3, h4⟩
    exact ⟨rfl, by rw [HNM.out]; exact h3, h2.trans h4⟩)
  clear hql2 HGS HX HPD HN
  rcases hi with ⟨hi0, hi1⟩ | ⟨hi0, hi1⟩
  · rw [if_pos hi0] at HCM
    clear hi0
    go_wp2_with fail
    rw [← hW1]
    clear hW1
    refine (HI.out W1 (by rw [HCM.out, List.append_nil]; exact HP1.out) HB1.out).mono ?_
    rintro e w3 ⟨rfl, hp3, hb3⟩
    have HP3 := Lib.hid hp3
    have k0 := HK (HBW.out.trans hb3) a0
    have k3 := HK (HBW.out.trans hb3) a3
    have k4 := HK (HBW.out.trans hb3) a4
    have HB3 := Lib.hid hb3
    clear hp3 hb3 HI
    have kn := HK (HBW.out.trans HB3.out) hnx
    go_wp2_with fail
    refine (HM.out w3 HP3.out HB3.out).mono ?_
    rintro e w5 ⟨rfl, hp5, hb5⟩
    have HP5 := Lib.hid hp5
    have k0 := HK (HBW.out.trans hb5) a0
    have k3 := HK (HBW.out.trans hb5) a3
    have k4 := HK (HBW.out.trans hb5) a4
    have HB5 := Lib.hid hb5
    clear hp5 hb5 HP3 HB3 HM
    go_wp2_with fail
    refine (HJ.out w5 HP5.out HB5.out).mono ?_
    rintro e w4 ⟨rfl, hp4, hb4⟩
    go_wp2
    go_end0
    exact ⟨rfl, hp4, hb4⟩
  · rw [if_neg hi0] at HCM
    clear hi0
    go_wp2_with fail
    rw [← hW1]
    clear hW1
    refine (put_byte B pb l ln _ 44 _ rfl _ HP1.out (by have := HL.out; omega)).mono ?_
    rintro e w2 ⟨rfl, hp2, hb2⟩
    have HP2 : Hid (Pr w2 B pb (l ++ cm) ln (fs ++ [(P, i + 1)])) := Lib.hid (by rw [HCM.out]; exact hp2)
    have HB2 := Lib.hid (HB1.out.trans hb2)
    clear hp2 hb2 HP1 HB1
    go_wp2_with fail
    refine (HI.out w2 HP2.out HB2.out).mono ?_
    rintro e w3 ⟨rfl, hp3, hb3⟩
    clear HP2 HB2
    have HP3 := Lib.hid hp3
    have k0 := HK (HBW.out.trans hb3) a0
    have k3 := HK (HBW.out.trans hb3) a3
    have k4 := HK (HBW.out.trans hb3) a4
    have HB3 := Lib.hid hb3
    clear hp3 hb3 HI
    have kn := HK (HBW.out.trans HB3.out) hnx
    go_wp2_with fail
    refine (HM.out w3 HP3.out HB3.out).mono ?_
    rintro e w5 ⟨rfl, hp5, hb5⟩
    have HP5 := Lib.hid hp5
    have k0 := HK (HBW.out.trans hb5) a0
    have k3 := HK (HBW.out.trans hb5) a3
    have k4 := HK (HBW.out.trans hb5) a4
    have HB5 := Lib.hid hb5
    clear hp5 hb5 HP3 HB3 HM
    go_wp2_with fail
    refine (HJ.out w5 HP5.out HB5.out).mono ?_
    rintro e w4 ⟨rfl, hp4, hb4⟩
    go_wp2
    go_end0
    exact ⟨rfl, hp4, hb4⟩
end Go.Proofs.YtkenananejgcpaaGreatDoor.Jsn
