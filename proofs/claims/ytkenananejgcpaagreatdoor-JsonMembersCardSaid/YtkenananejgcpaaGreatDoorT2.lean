/-
  What Told and Wrong answer: where the bytes go wrong; nothing that was there before is changed.
-/
import Derived.Test.YtkenananejgcpaaGreatDoorTMem
namespace Go.Proofs.YtkenananejgcpaaGreatDoor.Txt
open Go.RowKit
set_option maxRecDepth 100000
set_option maxHeartbeats 1000000 in
theorem wrong_any (l : List UInt8) (w : World) (hT : Tabs w) (h2 : 3 + 1 ≤ w.heap.size) (hl : l.length ≤ 140737488351232) :
    Calls Tryz.prog 36 #[.string (mk l)] w fun e w' => e = .returned (.int .i64 (wrong l 0)) ∧ Below w.heap.size w w' := by
  have HT := Lib.hid hT
  clear hT
  have hms := mk_size
  have hmt := mk_toList
  go_enter Tryz.func36, Tryz.ntmps36
  go_wp2
  go_loopw [3] (fun v wr => ∃ a : Nat, a ≤ l.length ∧ v = .int .i64 a ∧ wrong (l.drop a) a = wrong l 0 ∧ Below w.heap.size w wr) (fun v _ => l.length - (intOf v).toNat)
  case atStart => exact ⟨0, by omega, rfl, rfl, Below.refl _ _⟩
  case round =>
    obtain ⟨a, ha, rfl, hw, hb⟩ := hrel
    have HW := Lib.hid hw
    have HB := Lib.hid hb
    clear hw hb
    by_cases hlt : a < l.length
    · have hfrom : ∀ w, (Instr.slice 9 (.string (mk l)) (some (.int .i64 (a : Int))) none none).run Tryz.prog w = .ok (.string (mk (l.drop a))) w := fun w => run_from w l .i64 a ha
      have hne : l.drop a ≠ [] := fun e => by have := congrArg List.length e; rw [List.length_drop] at this; simp at this; omega
      have HC := Lib.hid (decode_any (mk (l.drop a)) wr (HT.out.below HB.out h2))
      rw [decodeGo_mk _ hne] at HC
      have hcl := chr_len _ hne
      rw [List.length_drop] at hcl
      obtain ⟨d0, d1⟩ := dec_chr (l.drop a)
      by_cases hc : chr (l.drop a) = 0
      · have HE : Hid (wrong l 0 = a) := Lib.hid (by rw [← HW.out]; exact wrong_bad a hne hc)
        rw [d0 hc] at HC
        clear d0 d1 hc hcl hne
        go_wp2_with fail
        refine HC.out.mono ?_
        rintro e w1 ⟨rfl, hb1⟩
        have HB1 : Hid (Below w.heap.size w w1) := Lib.hid (HB.out.trans (hb1.mono HB.out.size))
        clear hb1 HC
        go_wp2
        go_ret
        exact ⟨ret_num HE.out.symm, HB1.out⟩
      · have HE : Hid (wrong (l.drop (a + chr (l.drop a))) (a + chr (l.drop a)) = wrong l 0) := Lib.hid (by rw [← HW.out, wrong_step a hne hc, List.drop_drop])
        obtain ⟨e1, e2⟩ := d1 hc
        have hsz : (dec (l.drop a)).2 = chr (l.drop a) := e1
        have hnot : ¬ ((dec (l.drop a)).1 = 65533 ∧ (dec (l.drop a)).2 = 1) := fun h => by have := (e2 h.1).1; omega
        generalize chr (l.drop a) = k at *
        generalize dec (l.drop a) = d at *
        obtain ⟨r, s⟩ := d
        simp only at hsz hnot
        subst hsz
        clear d0 d1 e1 e2 hne
        have hnot' : ((r : Int) == 65533 && (s : Int) == 1) = false := by
          rw [Bool.and_eq_false_iff]
          by_cases h : r = 65533
          · right; rw [beq_eq_false_iff_ne]; omega
          · left; rw [beq_eq_false_iff_ne]; omega
        clear hnot
        go_wp2_with fail
        refine HC.out.mono ?_
        rintro e w1 ⟨rfl, hb1⟩
        have HB1 : Hid (Below w.heap.size w w1) := Lib.hid (HB.out.trans (hb1.mono HB.out.size))
        clear hb1 HC
        by_cases hr : r = 65533
        · subst hr
          have hs1 : ((s : Int) == 1) = false := by simpa using hnot'
          go_wp2
          go_roundw
          case rel => exact ⟨a + s, by omega, by go_num, HE.out, HB1.out⟩
          case measure => simp [intOf]; omega
        · have hr1 : ((r : Int) == 65533) = false := by rw [beq_eq_false_iff_ne]; omega
          go_wp2
          go_roundw
          case rel => exact ⟨a + s, by omega, by go_num, HE.out, HB1.out⟩
          case measure => simp [intOf]; omega
    · obtain rfl : a = l.length := by omega
      have HE : Hid (wrong l 0 = -1) := Lib.hid (by rw [← HW.out, List.drop_length]; rfl)
      clear HW
      go_wp2
      go_ret
      exact ⟨ret_num HE.out.symm, HB.out⟩
set_option maxHeartbeats 400000 in
theorem told_any (l : List UInt8) (w : World) (hT : Tabs w) (h2 : 3 + 1 ≤ w.heap.size) (hl : l.length ≤ 140737488351232) :
    Calls Tryz.prog 48 #[.string (mk l)] w fun e w' => e = .returned (.bool (decide (wrong l 0 < 0))) ∧ Below w.heap.size w w' := by
  have HC := Lib.hid (wrong_any l w hT h2 hl)
  generalize wrong l 0 = r at *
  clear hT
  have hms := mk_size
  have hmt := mk_toList
  go_enter Tryz.func48, Tryz.ntmps48
  go_wp2_with fail
  refine HC.out.mono ?_
  rintro e w1 ⟨rfl, hb1⟩
  clear HC
  go_wp2
  go_ret
  exact ⟨rfl, hb1⟩
end Go.Proofs.YtkenananejgcpaaGreatDoor.Txt
