/-
  close and goOn: what is open is closed, or goes on.
-/
import Derived.Test.YtkenananejgcpaaGreatDoorJPr3
namespace Go.Proofs.YtkenananejgcpaaGreatDoor.Jsn
open Go.RowKit Txt
theorem pr_grow {w w' : World} {B pb : Nat} {ap : Value} {l : List UInt8} {ln : Bool} {fs : List It} (h : PrA w B pb ap l ln fs) (hg : w.grownBy w' none) : PrA w' B pb ap l ln fs := by
  have hlt := pr_lt h
  obtain ⟨hB, bv, ov, hh, h1, h2⟩ := h
  have hn : ∀ v : Value, v.ownBlock = none ∨ v.ownBlock ≠ none := fun v => Classical.em _
  exact ⟨hB, bv, ov, (hg.block pb hlt (by simp)).trans hh, h1.kept hg (hn _), h2.kept hg (hn _)⟩
set_option maxRecDepth 100000
set_option maxHeartbeats 2000000 in
/-- close: the last one that is open is closed. -/
theorem close_any (B pb : Nat) (l : List UInt8) (ln : Bool) (fs : List It) (x : It) (v : V) (w : World) (h : Pr w B pb l ln (fs ++ [x])) (hr : Reads w x.1 v) (hx : x.1.block < B) (hl : l.length ≤ 2000000) (hf : fs.length ≤ 100000) :
    Calls Tryz.prog 82 #[.pointer (some ⟨pb, 0, none⟩)] w fun e w' => e = .returned (.tuple #[]) ∧ Pr w' B pb (l ++ ((if x.2 = 0 then [] else nl ln fs.length) ++ [if v.kind = 5 then 93 else 125])) ln fs ∧ Below B w w' := by
  obtain ⟨ap, hpa, hback⟩ := pr_some h
  obtain ⟨bv, ov, hh, o1, o2, n1, n2, n3⟩ := pr_parts hpa
  have hB := hpa.1
  have hlt := pr_lt hpa
  obtain ⟨g, cap, rfl, hg, hcap, e0, e1, hrow⟩ := pop2 o2
  have c0 : w.cell? x.1 = some (.int .i64 v.kind) := hr.five.elim (fun A hA => hA.elim (fun ca h => h.elim (fun B h => h.elim (fun cb h => h.1.c0))))
  have d3 : w.cell? ⟨pb, 3, none⟩ = some (.slice (some ⟨g, 0, none⟩) (fs.length + 1 : Nat) cap) := cell_of_row _ _ 3 _ _ _ hh
  have f3 : w.frozen? ⟨pb, 3, none⟩ = false := Lib.frozen_of_heap hh 3
  have HO := Lib.hid (pr_open hB hh o1 o2 hrow ⟨rfl, rfl, rfl, Nat.le_refl _, fun _ _ _ => rfl⟩)
  have HK := Lib.hid hback
  clear h hpa hback o1 o2 n1 n2 n3 hrow hh hr
  obtain ⟨q, hq⟩ : ∃ q, q = fs.length := ⟨_, rfl⟩
  rw [← hq] at hcap e0 e1 d3
  have HQ := Lib.hid hq
  have hq0 : q ≤ 100000 := by omega
  clear hq
  have w1 : wrap64 (q : Int) = q := by unfold wrap64; omega
  have w1' : IntKind.i64.wrap (q : Int) = q := by rw [IntKind.wrap_i64]; omega
  have w1'' : IntKind.i64.wrap ((q : Int) + 1 - 1) = q := by rw [IntKind.wrap_i64]; omega
  have w2 : (q : Int) < (q : Int) + 1 := by omega
  have w3 : (0 : Int) ≤ (q : Int) := by omega
  have w4 : (q : Int) ≤ (cap : Int) := by omega
  obtain ⟨ct, hct⟩ : ∃ ct : List UInt8, ct = ((if x.2 = 0 then [] else nl ln fs.length) ++ [if v.kind = 5 then 93 else 125]) := ⟨_, rfl⟩
  rw [← hct]
  have HCT := Lib.hid hct
  clear hct
  go_enter Tryz.func82, Tryz.ntmps82
  go_wp2_with fail
  go_region
  go_wp2_with fail
  go_region
  obtain ⟨W1, hW1⟩ : ∃ W1, W1 = w.setCell ⟨pb, 3, none⟩ (.slice (some ⟨g, 0, none⟩) (q : Nat) cap) := ⟨_, rfl⟩
  rw [← HQ.out, ← hW1] at HO
  have s1 : W1.heap.size = w.heap.size := by rw [hW1]; simp [World.setCell]
  rw [← hW1]
  clear hW1
  obtain ⟨W2, hW2⟩ : ∃ W2, W2 = (W1.alloc (Obj.cells #[.pointer (some x.1), .int .i64 x.2] 129)).drew.drew := ⟨_, rfl⟩
  have hg2 : W1.grownBy W2 none := by rw [hW2]; exact ⟨rfl, rfl, rfl, by simp, fun k hk _ => Below.heap_alloc W1 _ k hk⟩
  have hblk : Blk W2 w.heap.size 129 #[.pointer (some x.1), .int .i64 x.2] := by rw [hW2, ← s1]; exact Blk.new W1 _ _
  have hB2 : Below B w W2 := HO.out.2.trans ⟨hg2.os, hg2.tape, hg2.output, hg2.size, fun k hk => hg2.block k (by omega) (by simp)⟩
  have HP2 := Lib.hid (HK.out _ _ _ (pr_grow HO.out.1 hg2))
  have b0 := hblk.cell 0
  have b1 := hblk.cell 1
  have k0 : W2.cell? x.1 = some (.int .i64 v.kind) := (hB2.cell hx).trans c0
  have HB2 := Lib.hid hB2
  rw [← hW2]
  clear hW2 hg2 hB2 HO s1 w1 w1' w1'' w2 w3 w4 e0 e1 d3 f3 c0
  rw [HQ.out] at *
  by_cases hx0 : x.2 = 0
  · have z0 : ¬ (0 : Int) < (x.2 : Int) := by omega
    rw [if_pos hx0] at HCT
    by_cases h5 : v.kind = 5
    · rw [if_pos h5] at HCT
      rw [h5] at k0
      go_wp2_with fail
      refine (put_byte B pb l ln fs 93 _ rfl _ HP2.out (by omega)).mono ?_
      rintro e w3 ⟨rfl, hp3, hb3⟩
      go_wp2
      go_end0
      exact ⟨rfl, by rw [HCT.out]; simpa using hp3, HB2.out.trans hb3⟩
    · have e5 : (v.kind == 5) = false := by rw [beq_eq_false_iff_ne]; exact h5
      rw [if_neg h5] at HCT
      go_wp2_with fail
      refine (put_byte B pb l ln fs 125 _ rfl _ HP2.out (by omega)).mono ?_
      rintro e w3 ⟨rfl, hp3, hb3⟩
      go_wp2
      go_end0
      exact ⟨rfl, by rw [HCT.out]; simpa using hp3, HB2.out.trans hb3⟩
  · have z0 : (0 : Int) < (x.2 : Int) := by omega
    rw [if_neg hx0] at HCT
    go_wp2_with fail
    refine (newLine_o B pb l ln fs _ HP2.out (by omega) (by omega)).mono ?_
    rintro e w3 ⟨rfl, hp3, hb3, ho3⟩
    have b0' := (ho3 _ _ _ hblk (by omega) (by decide)).cell 0
    have k0' : w3.cell? x.1 = some (.int .i64 v.kind) := (hb3.cell hx).trans k0
    have HP3 := Lib.hid hp3
    have HB3 := Lib.hid (HB2.out.trans hb3)
    have hnl : (nl ln fs.length).length ≤ 200001 := by unfold nl; split <;> simp; omega
    clear hp3 hb3 HP2 HB2
    by_cases h5 : v.kind = 5
    · rw [if_pos h5] at HCT
      rw [h5] at k0'
      go_wp2_with fail
      refine (put_byte B pb _ ln fs 93 _ rfl _ HP3.out (by simp; omega)).mono ?_
      rintro e w4 ⟨rfl, hp4, hb4⟩
      go_wp2
      go_end0
      exact ⟨rfl, by rw [HCT.out]; simpa using hp4, HB3.out.trans hb4⟩
    · have e5 : (v.kind == 5) = false := by rw [beq_eq_false_iff_ne]; exact h5
      rw [if_neg h5] at HCT
      go_wp2_with fail
      refine (put_byte B pb _ ln fs 125 _ rfl _ HP3.out (by simp; omega)).mono ?_
      rintro e w4 ⟨rfl, hp4, hb4⟩
      go_wp2
      go_end0
      exact ⟨rfl, by rw [HCT.out]; simpa using hp4, HB3.out.trans hb4⟩
end Go.Proofs.YtkenananejgcpaaGreatDoor.Jsn
