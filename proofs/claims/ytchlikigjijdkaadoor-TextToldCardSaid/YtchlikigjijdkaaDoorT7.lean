/-
  What Unescape answers: the bytes, if they are told, or an error's number; nothing that was there before is changed.
-/
import Derived.Test.YtchlikigjijdkaaDoorT6
namespace Go.Proofs.YtchlikigjijdkaaDoor.Txt
open Go.RowKit
set_option maxRecDepth 100000
theorem bldF_below {w w' : World} {B b : Nat} {l : List UInt8} (h : BldF w B b l) (hb : Below w.heap.size w w') : BldF w' B b l := by
  have key : ∀ p, Lib.BuilderAtF 50 5 B b p (Lib.byteCells l) w → Lib.BuilderAtF 50 5 B b p (Lib.byteCells l) w' := by
    rintro p ⟨hB, v, hv, hrow, hne⟩
    refine ⟨hB, v, (hb.block b (show Blk w b _ _ from hv).lt).trans hv, ?_, hne⟩
    obtain ⟨h1, h2⟩ := hrow
    refine ⟨h1, ?_⟩
    rcases h2 with h2 | ⟨g, cap, cur, fz, hv, hg, hh, hr⟩
    · exact .inl h2
    · refine .inr ⟨g, cap, cur, fz, hv, hg, (hb.block g ?_).trans hh, hr⟩
      by_cases hlt : g < w.heap.size
      · exact hlt
      · rw [Array.getElem?_eq_none (by omega)] at hh; cases hh
  exact h.elim (fun h => .inl (key _ h)) (fun h => .inr (key _ h))
theorem bld_below {w w' : World} {B b : Nat} {l : List UInt8} (h : Bld w B b l) (hb : Below w.heap.size w w') : Bld w' B b l := by
  have key : ∀ p, Lib.BuilderAt 50 5 B b p (Lib.byteCells l) w → Lib.BuilderAt 50 5 B b p (Lib.byteCells l) w' := by
    rintro p ⟨hB, v, hv, hrow, hne⟩
    exact ⟨hB, v, (hb.block b (show Blk w b _ _ from hv).lt).trans hv, row_below hrow hb, hne⟩
  exact h.elim (fun h => .inl (key _ h)) (fun h => .inr (key _ h))
set_option maxHeartbeats 2000000 in
theorem unescape_any (l : List UInt8) (w : World) (hT : Tabs w) (h2 : 2 ≤ w.heap.size) (hl : l.length ≤ 10000000) :
    Calls Tryd.prog 14 #[.string (mk l)] w fun e w' => e = .returned (.tuple #[.string (mk (unE l).1), .int .i64 ((unE l).2 : Nat)]) ∧ Below w.heap.size w w' := by
  have HT := Lib.hid hT
  clear hT
  have hms := mk_size
  have hmt := mk_toList
  go_enter Tryd.func14, Tryd.ntmps14
  go_wp2
  go_loopw [5] (fun v wr => ∃ (a : Nat) (o : List UInt8), a ≤ l.length ∧ v = .int .i64 a ∧ o.length ≤ a ∧ un l = (un (l.drop a)).map (o ++ ·) ∧ Bld wr w.heap.size w.heap.size o ∧ Below w.heap.size w wr) (fun v _ => l.length - (intOf v).toNat)
  case atStart => exact ⟨0, [], by omega, rfl, by simp, by simp, bld_new w, (Below.refl _ _).alloc (Nat.le_refl _) _⟩
  case round =>
    obtain ⟨a, o, ha, rfl, hoa, hu, hI, hb⟩ := hrel
    have HU := Lib.hid hu
    have HI := Lib.hid hI
    have HB := Lib.hid hb
    clear hu hI hb
    by_cases hlt : a < l.length
    · have hfrom : ∀ w, (Instr.slice 9 (.string (mk l)) (some (.int .i64 (a : Int))) none none).run Tryd.prog w = .ok (.string (mk (l.drop a))) w := fun w => run_from w l .i64 a ha
      have hne : l.drop a ≠ [] := fun e => by have := congrArg List.length e; rw [List.length_drop] at this; simp at this; omega
      have HC := Lib.hid (unescapeFirst_any (l.drop a) hne (by rw [List.length_drop]; omega) wr)
      cases hf : un1 (l.drop a) with
      | none =>
        rw [first_none hf] at HC
        have HE : Hid (unE l = ([], 31)) := Lib.hid (unE_none (by rw [HU.out, un_bad hne hf]; rfl))
        clear hf hne HU
        go_wp2_with fail
        refine HC.out.mono ?_
        rintro e w1 ⟨rfl, hb1⟩
        have HB1 : Hid (Below w.heap.size w w1) := Lib.hid (HB.out.trans (hb1.mono HB.out.size))
        clear hb1 HC
        go_wp2
        go_ret2
        exact ⟨by rw [HE.out]; rfl, HB1.out⟩
      | some q =>
        obtain ⟨b, k⟩ := q
        rw [first_some hf] at HC
        have hk := un1_some hne hf
        rw [List.length_drop] at hk
        have HE : Hid (un l = (un (l.drop (a + k))).map ((o ++ [b]) ++ ·)) := Lib.hid (by
          rw [HU.out, un_step hne hf, List.drop_drop, Option.map_map]
          congr 1
          funext r
          simp)
        have hk0 : ((k : Int) == 0) = false := by rw [beq_eq_false_iff_ne]; omega
        clear hf hne HU
        go_wp2_with fail
        refine HC.out.mono ?_
        rintro e w1 ⟨rfl, hb1⟩
        have HB1 : Hid (Below w.heap.size w w1) := Lib.hid (HB.out.trans (hb1.mono HB.out.size))
        have HI1 : Hid (Bld w1 w.heap.size w.heap.size o) := Lib.hid (bld_below HI.out hb1)
        clear hb1 HC HI
        go_wp2_with fail
        refine (write_at w.heap.size w.heap.size o b _ rfl _ HI1.out (by omega) HB1.out.size).mono ?_
        rintro e w2 ⟨rfl, hI2, hb2⟩
        have HI2 := Lib.hid hI2
        have HB2 : Hid (Below w.heap.size w w2) := Lib.hid (HB1.out.trans hb2)
        clear hI2 hb2 HI1 HB1
        go_wp2
        go_roundw
        case rel => exact ⟨a + k, o ++ [b], by omega, by go_num, by simp; omega, HE.out, HI2.out, HB2.out⟩
        case measure => simp [intOf]; omega
    · obtain rfl : a = l.length := by omega
      rw [List.drop_length] at HU
      have hu : un l = some o := by rw [HU.out, un_nil]; simp
      clear HU
      have HT1 := Lib.hid (HT.out.below HB.out h2)
      have hsz := HB.out.size
      go_wp2_with fail
      refine (takenF_any w.heap.size w.heap.size o _ (bldF_of HI.out) HB.out.size).mono ?_
      rintro e w1 ⟨rfl, hI1, hb1⟩
      have HI1 := Lib.hid hI1
      have HB1 : Hid (Below w.heap.size w w1) := Lib.hid (HB.out.trans hb1)
      clear hI1 hb1 HI
      have hs1 := HB1.out.size
      go_wp2_with fail
      refine (told_any o _ (HT.out.below HB1.out h2) (by omega) (by omega)).mono ?_
      rintro e w2 ⟨rfl, hb2⟩
      have HI2 := Lib.hid (bldF_below HI1.out hb2)
      have HB2 : Hid (Below w.heap.size w w2) := Lib.hid (HB1.out.trans (hb2.mono hs1))
      clear hb2 HI1 HB1
      by_cases hw : wrong o 0 < 0
      · have HE := Lib.hid (unE_good hu hw)
        rw [decide_eq_true hw]
        clear hu hw
        go_wp2_with fail
        refine (takenF_any w.heap.size w.heap.size o _ HI2.out HB2.out.size).mono ?_
        rintro e w3 ⟨rfl, hI3, hb3⟩
        have HB3 : Hid (Below w.heap.size w w3) := Lib.hid (HB2.out.trans hb3)
        clear hI3 hb3
        go_wp2
        go_ret2
        exact ⟨by rw [HE.out]; rfl, HB3.out⟩
      · have HE := Lib.hid (unE_wrong hu hw)
        rw [decide_eq_false hw]
        clear hu hw
        go_wp2
        go_ret2
        exact ⟨by rw [HE.out]; rfl, HB2.out⟩
end Go.Proofs.YtchlikigjijdkaaDoor.Txt
