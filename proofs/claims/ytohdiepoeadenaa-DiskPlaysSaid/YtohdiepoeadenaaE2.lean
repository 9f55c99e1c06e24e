/-
  The contract of the document's Write.
-/
import Derived.Test.YtohdiepoeadenaaE1
import Derived.StillTailTactics
import Derived.IntWalk
namespace Go.Proofs.Ytohdiepoeadenaa.Dsk
open Go.RowKit
/-- One byte more of b. -/
theorem splice_step (l b : List UInt8) (a k : Nat) (hk : k < b.length) (ha : a + b.length ≤ l.length) : (splice l a (b.take k)).set (a + k) (b.getD k 0) = splice l a (b.take (k + 1)) := by
  apply List.ext_getElem?
  intro i
  have h1 : (b.take k).length = k := by rw [List.length_take]; omega
  have h2 : (b.take (k + 1)).length = k + 1 := by rw [List.length_take]; omega
  have h3 : (l.take a).length = a := by rw [List.length_take]; omega
  unfold splice
  rw [h1, h2, List.getElem?_set]
  simp only [List.getElem?_append, h1, h2, h3, List.length_append, List.length_drop]
  by_cases hi : a + k = i
  · subst hi
    rw [if_pos rfl, if_pos (by omega), if_neg (by omega), if_pos (by omega)]
    rw [show a + k - a = k by omega, List.getElem?_take, if_pos (by omega), List.getD_eq_getElem?_getD, List.getElem?_eq_getElem hk]
    rfl
  · rw [if_neg hi]
    by_cases hia : i < a
    · rw [if_pos hia, if_pos hia]
    · rw [if_neg hia, if_neg hia]
      by_cases hik : i - a < k
      · rw [if_pos hik, if_pos (by omega), List.getElem?_take, List.getElem?_take, if_pos hik, if_pos (by omega)]
      · rw [if_neg hik, if_neg (by omega), List.getElem?_drop, List.getElem?_drop]
        congr 1
        omega
/-- While the bytes are written. -/
structure WInv (w : World) (d g a k : Nat) (l b : List UInt8) (T : Dk) (y : Int) (wr : World) : Prop where
  blk : Blk wr d 41 [.slice (some ⟨g, 0, none⟩) l.length l.length, .bool T.down, .int .i64 T.left, .int .i64 y, .int .i64 (T.wr : Nat)]
  row : Blk wr g 5 (bc (splice l a (b.take k)))
  but : But d g w wr
  size : wr.heap.size = w.heap.size
theorem splice_none (l b : List UInt8) (a : Nat) : splice l a (b.take 0) = l := by simp [splice]
/-- The ways of a write, told by what the loop is begun with. -/
def Way (s : Dk) (y : Int) (a : Nat) (b : List UInt8) (n : Nat) (E : Int) (T : Dk) : Prop := s.write a b = (E, T) ∧ T.l = splice s.l a (b.take n) ∧ n ≤ b.length ∧ (T.set = true → y = T.fb)
set_option maxRecDepth 100000
set_option maxHeartbeats 2000000 in
theorem rwrite_ok (w : World) (d g : Nat) (s : Dk) (y : Int) (h : Rsk w d g s y) (a : Nat) (b : List UInt8) (A : Option Addr) (c : Nat) (S : Nat → Prop) (hR : Rd w S A b) (hSd : ¬ S d) (hSg : ¬ S g) (hbc : b.length ≤ c) (ho : s.ok) (hd : s.down = false) (hab : a + b.length ≤ s.l.length) :
    Calls Try.prog 13 #[.pointer (some ⟨d, 0, none⟩), .int .i64 (a : Int), .slice A b.length c] w fun e w' => e = .returned (.int .i64 (s.write a b).1) ∧
      Rsk w' d g (s.write a b).2 y ∧ But d g w w' ∧ w'.heap.size = w.heap.size := by
  have hl := ho.len
  have hwr := ho.wr
  have hfw0 := ho.fw0
  have hfw1 := ho.fw1
  have hfb0 := ho.fb0
  have he : s.err a b.length = 0 := Dk.err_ok hd (by omega)
  have hc := may_any w d g s y h a b.length (by omega) (by omega) (by omega) hl
  rw [he] at hc
  have h0 := h.c0
  have h1 := h.c1
  have h2 := h.c2
  have h3 := h.c3
  have h4 := h.c4
  have f1 := h.fz 1
  have f2 := h.fz 2
  have f4 := h.fz 4
  have H := Lib.hid h
  have HR := Lib.hid hR
  have HAB := Lib.hid hab
  have HBC := Lib.hid hbc
  have hways : (s.left = 0 ∧ ∃ k : Nat, y = (k : Int) ∧ (k : Int) < b.length ∧ Way s y a b k 20 (s.torn a b)) ∨ (s.left = 0 ∧ ∃ k : Nat, y = (k : Int) ∧ ¬ (k : Int) < b.length ∧ Way s y a b b.length 20 (s.torn a b)) ∨ (0 < s.left ∧ (s.done a b).left = s.left - 1 ∧ Way s y a b b.length 0 (s.done a b)) ∨ (s.left = -1 ∧ (s.done a b).left = -1 ∧ Way s y a b b.length 0 (s.done a b)) := by
    have hw : s.write a b = if s.set && s.fw == 0 then (20, s.torn a b) else (0, s.done a b) := by
      unfold Dk.write
      rw [he, Int.toNat_natCast]
      rfl
    unfold Way
    rw [hw]
    unfold Dk.left
    cases hs : s.set with
    | false => exact .inr (.inr (.inr ⟨by simp, by simp [Dk.done, hs], by simp, by simp [Dk.done], Nat.le_refl _, by simp [Dk.done, hs]⟩))
    | true =>
      have hy := h.by' hs
      by_cases h5 : s.fw = 0
      · obtain ⟨k, hk⟩ : ∃ k : Nat, y = (k : Int) := ⟨y.toNat, by omega⟩
        have hkb : s.fb.toNat = k := by omega
        by_cases h6 : (k : Int) < b.length
        · exact .inl ⟨by simp [h5], k, hk, h6, by simp [h5], by simp [Dk.torn, hkb], by omega, fun _ => hy⟩
        · refine .inr (.inl ⟨by simp [h5], k, hk, h6, by simp [h5], ?_, Nat.le_refl _, fun _ => hy⟩)
          simp only [Dk.torn, hkb]
          rw [List.take_of_length_le (by omega), List.take_of_length_le (Nat.le_refl _)]
      · exact .inr (.inr (.inl ⟨by simp; omega, by simp [Dk.done, hs], by simp [h5], by simp [Dk.done], Nat.le_refl _, fun _ => hy⟩))
  clear h hR hab hbc he hfb0
  have hlen : s.left ≤ 9223372036854775807 := by unfold Dk.left; split <;> omega
  generalize hL : s.left = left at *
  have HL := Lib.hid hL
  clear hL hfw0 hfw1
  rcases hways with ⟨rfl, k, rfl, hk, hway⟩ | ⟨rfl, k, rfl, hk, hway⟩ | ⟨hp, hq, hway⟩ | ⟨rfl, hq, hway⟩
  · have HW := Lib.hid hway
    have HI : Hid (WInv w d g a 0 s.l b (s.torn a b) k ((w.setCell ⟨d, 4, none⟩ (.int .i64 ((s.wr : Int) + 1))).setCell ⟨d, 1, none⟩ (.bool true))) := Lib.hid
      ⟨by skip; exact (H.out.blk.put 4 (.int .i64 ((s.wr : Int) + 1))).put 1 (.bool true), by rw [splice_none]; exact ((H.out.row.other _ _ H.out.ne.symm).other _ _ H.out.ne.symm), ((But.refl d g w).putd _ _).putd _ _, by simp [World.setCell]⟩
    clear hway
    go_enter Try.func13, Try.ntmps13
    go_wp2_with (go_at_call 25; refine hc.mono ?_; rintro e w' ⟨rfl, rfl⟩)
    clear hc h0 h1 h2 h3 h4 f1 f2 f4
    generalize ((w.setCell ⟨d, 4, none⟩ (.int .i64 ((s.wr : Int) + 1))).setCell ⟨d, 1, none⟩ (.bool true)) = wL at *
    obtain ⟨n0, hn0⟩ : ∃ n0 : Nat, n0 = k := ⟨_, rfl⟩
    have HN0 := Lib.hid hn0
    have hab := HAB.out
    have hnb : n0 ≤ b.length := by rw [hn0]; exact HW.out.2.2.1
    clear hn0
    go_loopw [9] (fun i wr => ∃ j : Nat, j ≤ n0 ∧ i = .int .i64 j ∧ WInv w d g a j s.l b (s.torn a b) k wr) (fun i _ => n0 - (intOf i).toNat)
    case atStart => exact ⟨0, Nat.zero_le _, rfl, HI.out⟩
    case round =>
      obtain ⟨j, hj, rfl, hinv⟩ := hrel
      clear HI
      have HI := Lib.hid hinv
      clear hinv
      have h0 : wr.cell? ⟨d, 0, none⟩ = some (.slice (some ⟨g, 0, none⟩) s.l.length s.l.length) := HI.out.blk.cell 0
      have hn1 := HN0.out
      by_cases hlt : j < n0
      · have hjn : (j : Int) < k := by omega
        clear hn1
        obtain ⟨ad, rfl, _, _, hcs⟩ := HR.out.but HI.out.but hSd hSg (by omega)
        have hx : wr.cell? (ad.add j) = some (.int .u8 ((b.getD j 0).toNat : Nat)) := hcs j _ (bc_get b j (by omega))
        have hlen := splice_length s.l (b.take j) a (by rw [List.length_take]; omega)
        have hy : wr.cell? ⟨g, a + j, none⟩ = some (.int .u8 (((splice s.l a (b.take j)).getD (a + j) 0).toNat : Nat)) := by rw [HI.out.row.cell]; exact bc_get _ _ (by omega)
        have hfz := HI.out.row.frozen (a + j)
        have hjb : j < b.length := by omega
        have hajl : a + j < s.l.length := by omega
        have hajl' : (a : Int) + j < s.l.length := by omega
        have e2 : (0 : Int) ≤ a + j := by omega
        have e3 : ((a : Int) + j).toNat = a + j := by omega
        have e1 : IntKind.i64.wrap ((a : Int) + j) = (a : Int) + j := IntWalk.i64_in _ (by omega)
        have HS := Lib.hid (splice_step s.l b a j (by omega) hab)
        obtain ⟨x, hxe⟩ : ∃ x, x = b.getD j 0 := ⟨_, rfl⟩
        rw [← hxe] at hx HS
        clear hcs hlen hxe
        generalize (splice s.l a (b.take j)).getD (a + j) 0 = z at hy
        go_wp2
        go_still_tail 12, (by kernel_rfl)
        change wpList _ _ _ _ _ wr.drew
        clear e1 e2 e3
        go_wp2
        go_roundw
        case rel =>
          refine ⟨j + 1, by omega, by go_num, ?_⟩
          refine ⟨HI.out.blk.other _ _ H.out.ne, ?_, (HI.out.but.putg _ _).drew, by rw [← HI.out.size]; simp [World.setCell]⟩
          rw [← HS.out, ← bc_set]
          exact HI.out.row.put _ _
        case measure => simp [intOf]; omega
      · have hjn : ¬ (j : Int) < k := by omega
        have HJ := Lib.hid (show j = n0 by omega)
        clear hn1
        go_wp2
        go_ret
        rw [HW.out.1]
        have hrow := HI.out.row
        rw [HJ.out, HN0.out, ← HW.out.2.1] at hrow
        have hTl : (s.torn a b).l.length = s.l.length := by rw [HW.out.2.1, splice_length _ _ _ (by rw [List.length_take]; omega)]
        refine ⟨rfl, ⟨?_, hrow, H.out.ne, HW.out.2.2.2⟩, HI.out.but, HI.out.size⟩
        rw [hTl]
        exact HI.out.blk
  · have hk1 : decide ((k : Int) < b.length) = false := by simp; omega
    have hk2 : decide (k < b.length) = false := by simp; omega
    have HW := Lib.hid hway
    have HI : Hid (WInv w d g a 0 s.l b (s.torn a b) k ((w.setCell ⟨d, 4, none⟩ (.int .i64 ((s.wr : Int) + 1))).setCell ⟨d, 1, none⟩ (.bool true))) := Lib.hid
      ⟨by skip; exact (H.out.blk.put 4 (.int .i64 ((s.wr : Int) + 1))).put 1 (.bool true), by rw [splice_none]; exact ((H.out.row.other _ _ H.out.ne.symm).other _ _ H.out.ne.symm), ((But.refl d g w).putd _ _).putd _ _, by simp [World.setCell]⟩
    clear hway
    go_enter Try.func13, Try.ntmps13
    go_wp2_with (go_at_call 25; refine hc.mono ?_; rintro e w' ⟨rfl, rfl⟩)
    clear hc h0 h1 h2 h3 h4 f1 f2 f4
    generalize ((w.setCell ⟨d, 4, none⟩ (.int .i64 ((s.wr : Int) + 1))).setCell ⟨d, 1, none⟩ (.bool true)) = wL at *
    obtain ⟨n0, hn0⟩ : ∃ n0 : Nat, n0 = b.length := ⟨_, rfl⟩
    have HN0 := Lib.hid hn0
    have hab := HAB.out
    have hnb : n0 ≤ b.length := by rw [hn0]; exact HW.out.2.2.1
    clear hn0
    go_loopw [9] (fun i wr => ∃ j : Nat, j ≤ n0 ∧ i = .int .i64 j ∧ WInv w d g a j s.l b (s.torn a b) k wr) (fun i _ => n0 - (intOf i).toNat)
    case atStart => exact ⟨0, Nat.zero_le _, rfl, HI.out⟩
    case round =>
      obtain ⟨j, hj, rfl, hinv⟩ := hrel
      clear HI
      have HI := Lib.hid hinv
      clear hinv
      have h0 : wr.cell? ⟨d, 0, none⟩ = some (.slice (some ⟨g, 0, none⟩) s.l.length s.l.length) := HI.out.blk.cell 0
      have hn1 := HN0.out
      by_cases hlt : j < n0
      · have hjn : (j : Int) < b.length := by omega
        clear hn1
        obtain ⟨ad, rfl, _, _, hcs⟩ := HR.out.but HI.out.but hSd hSg (by omega)
        have hx : wr.cell? (ad.add j) = some (.int .u8 ((b.getD j 0).toNat : Nat)) := hcs j _ (bc_get b j (by omega))
        have hlen := splice_length s.l (b.take j) a (by rw [List.length_take]; omega)
        have hy : wr.cell? ⟨g, a + j, none⟩ = some (.int .u8 (((splice s.l a (b.take j)).getD (a + j) 0).toNat : Nat)) := by rw [HI.out.row.cell]; exact bc_get _ _ (by omega)
        have hfz := HI.out.row.frozen (a + j)
        have hjb : j < b.length := by omega
        have hajl : a + j < s.l.length := by omega
        have hajl' : (a : Int) + j < s.l.length := by omega
        have e2 : (0 : Int) ≤ a + j := by omega
        have e3 : ((a : Int) + j).toNat = a + j := by omega
        have e1 : IntKind.i64.wrap ((a : Int) + j) = (a : Int) + j := IntWalk.i64_in _ (by omega)
        have HS := Lib.hid (splice_step s.l b a j (by omega) hab)
        obtain ⟨x, hxe⟩ : ∃ x, x = b.getD j 0 := ⟨_, rfl⟩
        rw [← hxe] at hx HS
        clear hcs hlen hxe
        generalize (splice s.l a (b.take j)).getD (a + j) 0 = z at hy
        go_wp2
        go_still_tail 12, (by kernel_rfl)
        change wpList _ _ _ _ _ wr.drew
        clear e1 e2 e3
        go_wp2
        go_roundw
        case rel =>
          refine ⟨j + 1, by omega, by go_num, ?_⟩
          refine ⟨HI.out.blk.other _ _ H.out.ne, ?_, (HI.out.but.putg _ _).drew, by rw [← HI.out.size]; simp [World.setCell]⟩
          rw [← HS.out, ← bc_set]
          exact HI.out.row.put _ _
        case measure => simp [intOf]; omega
      · have hjn : ¬ (j : Int) < b.length := by omega
        have HJ := Lib.hid (show j = n0 by omega)
        clear hn1
        go_wp2
        go_ret
        rw [HW.out.1]
        have hrow := HI.out.row
        rw [HJ.out, HN0.out, ← HW.out.2.1] at hrow
        have hTl : (s.torn a b).l.length = s.l.length := by rw [HW.out.2.1, splice_length _ _ _ (by rw [List.length_take]; omega)]
        refine ⟨rfl, ⟨?_, hrow, H.out.ne, HW.out.2.2.2⟩, HI.out.but, HI.out.size⟩
        rw [hTl]
        exact HI.out.blk
  · have hk1 : decide (0 < left) = true := by simp; omega
    have hk2 : (left == 0) = false := by simp; omega
    have hk3 : 1 ≤ left := by omega
    have HW := Lib.hid hway
    have HI : Hid (WInv w d g a 0 s.l b (s.done a b) y ((w.setCell ⟨d, 4, none⟩ (.int .i64 ((s.wr : Int) + 1))).setCell ⟨d, 2, none⟩ (.int .i64 (left - 1)))) := Lib.hid
      ⟨by rw [hq]; exact (H.out.blk.put 4 (.int .i64 ((s.wr : Int) + 1))).put 2 (.int .i64 (left - 1)), by rw [splice_none]; exact ((H.out.row.other _ _ H.out.ne.symm).other _ _ H.out.ne.symm), ((But.refl d g w).putd _ _).putd _ _, by simp [World.setCell]⟩
    clear hway
    go_enter Try.func13, Try.ntmps13
    go_wp2_with (go_at_call 25; refine hc.mono ?_; rintro e w' ⟨rfl, rfl⟩)
    clear hc h0 h1 h2 h3 h4 f1 f2 f4
    generalize ((w.setCell ⟨d, 4, none⟩ (.int .i64 ((s.wr : Int) + 1))).setCell ⟨d, 2, none⟩ (.int .i64 (left - 1))) = wL at *
    obtain ⟨n0, hn0⟩ : ∃ n0 : Nat, n0 = b.length := ⟨_, rfl⟩
    have HN0 := Lib.hid hn0
    have hab := HAB.out
    have hnb : n0 ≤ b.length := by rw [hn0]; exact HW.out.2.2.1
    clear hn0
    go_loopw [9] (fun i wr => ∃ j : Nat, j ≤ n0 ∧ i = .int .i64 j ∧ WInv w d g a j s.l b (s.done a b) y wr) (fun i _ => n0 - (intOf i).toNat)
    case atStart => exact ⟨0, Nat.zero_le _, rfl, HI.out⟩
    case round =>
      obtain ⟨j, hj, rfl, hinv⟩ := hrel
      clear HI
      have HI := Lib.hid hinv
      clear hinv
      have h0 : wr.cell? ⟨d, 0, none⟩ = some (.slice (some ⟨g, 0, none⟩) s.l.length s.l.length) := HI.out.blk.cell 0
      have hn1 := HN0.out
      by_cases hlt : j < n0
      · have hjn : (j : Int) < b.length := by omega
        clear hn1
        obtain ⟨ad, rfl, _, _, hcs⟩ := HR.out.but HI.out.but hSd hSg (by omega)
        have hx : wr.cell? (ad.add j) = some (.int .u8 ((b.getD j 0).toNat : Nat)) := hcs j _ (bc_get b j (by omega))
        have hlen := splice_length s.l (b.take j) a (by rw [List.length_take]; omega)
        have hy : wr.cell? ⟨g, a + j, none⟩ = some (.int .u8 (((splice s.l a (b.take j)).getD (a + j) 0).toNat : Nat)) := by rw [HI.out.row.cell]; exact bc_get _ _ (by omega)
        have hfz := HI.out.row.frozen (a + j)
        have hjb : j < b.length := by omega
        have hajl : a + j < s.l.length := by omega
        have hajl' : (a : Int) + j < s.l.length := by omega
        have e2 : (0 : Int) ≤ a + j := by omega
        have e3 : ((a : Int) + j).toNat = a + j := by omega
        have e1 : IntKind.i64.wrap ((a : Int) + j) = (a : Int) + j := IntWalk.i64_in _ (by omega)
        have HS := Lib.hid (splice_step s.l b a j (by omega) hab)
        obtain ⟨x, hxe⟩ : ∃ x, x = b.getD j 0 := ⟨_, rfl⟩
        rw [← hxe] at hx HS
        clear hcs hlen hxe
        generalize (splice s.l a (b.take j)).getD (a + j) 0 = z at hy
        go_wp2
        go_still_tail 12, (by kernel_rfl)
        change wpList _ _ _ _ _ wr.drew
        clear e1 e2 e3
        go_wp2
        go_roundw
        case rel =>
          refine ⟨j + 1, by omega, by go_num, ?_⟩
          refine ⟨HI.out.blk.other _ _ H.out.ne, ?_, (HI.out.but.putg _ _).drew, by rw [← HI.out.size]; simp [World.setCell]⟩
          rw [← HS.out, ← bc_set]
          exact HI.out.row.put _ _
        case measure => simp [intOf]; omega
      · have hjn : ¬ (j : Int) < b.length := by omega
        have HJ := Lib.hid (show j = n0 by omega)
        clear hn1
        go_wp2
        go_ret
        rw [HW.out.1]
        have hrow := HI.out.row
        rw [HJ.out, HN0.out, ← HW.out.2.1] at hrow
        have hTl : (s.done a b).l.length = s.l.length := by rw [HW.out.2.1, splice_length _ _ _ (by rw [List.length_take]; omega)]
        refine ⟨rfl, ⟨?_, hrow, H.out.ne, HW.out.2.2.2⟩, HI.out.but, HI.out.size⟩
        rw [hTl]
        exact HI.out.blk
  · have HW := Lib.hid hway
    have HI : Hid (WInv w d g a 0 s.l b (s.done a b) y (w.setCell ⟨d, 4, none⟩ (.int .i64 ((s.wr : Int) + 1)))) := Lib.hid
      ⟨by rw [hq]; exact (by have h9 := H.out.blk.put 4 (.int .i64 ((s.wr : Int) + 1)); rw [HL.out] at h9; exact h9), by rw [splice_none]; exact (H.out.row.other _ _ H.out.ne.symm), (But.refl d g w).putd _ _, by simp [World.setCell]⟩
    clear hway
    go_enter Try.func13, Try.ntmps13
    go_wp2_with (go_at_call 25; refine hc.mono ?_; rintro e w' ⟨rfl, rfl⟩)
    clear hc h0 h1 h2 h3 h4 f1 f2 f4
    generalize (w.setCell ⟨d, 4, none⟩ (.int .i64 ((s.wr : Int) + 1))) = wL at *
    obtain ⟨n0, hn0⟩ : ∃ n0 : Nat, n0 = b.length := ⟨_, rfl⟩
    have HN0 := Lib.hid hn0
    have hab := HAB.out
    have hnb : n0 ≤ b.length := by rw [hn0]; exact HW.out.2.2.1
    clear hn0
    go_loopw [9] (fun i wr => ∃ j : Nat, j ≤ n0 ∧ i = .int .i64 j ∧ WInv w d g a j s.l b (s.done a b) y wr) (fun i _ => n0 - (intOf i).toNat)
    case atStart => exact ⟨0, Nat.zero_le _, rfl, HI.out⟩
    case round =>
      obtain ⟨j, hj, rfl, hinv⟩ := hrel
      clear HI
      have HI := Lib.hid hinv
      clear hinv
      have h0 : wr.cell? ⟨d, 0, none⟩ = some (.slice (some ⟨g, 0, none⟩) s.l.length s.l.length) := HI.out.blk.cell 0
      have hn1 := HN0.out
      by_cases hlt : j < n0
      · have hjn : (j : Int) < b.length := by omega
        clear hn1
        obtain ⟨ad, rfl, _, _, hcs⟩ := HR.out.but HI.out.but hSd hSg (by omega)
        have hx : wr.cell? (ad.add j) = some (.int .u8 ((b.getD j 0).toNat : Nat)) := hcs j _ (bc_get b j (by omega))
        have hlen := splice_length s.l (b.take j) a (by rw [List.length_take]; omega)
        have hy : wr.cell? ⟨g, a + j, none⟩ = some (.int .u8 (((splice s.l a (b.take j)).getD (a + j) 0).toNat : Nat)) := by rw [HI.out.row.cell]; exact bc_get _ _ (by omega)
        have hfz := HI.out.row.frozen (a + j)
        have hjb : j < b.length := by omega
        have hajl : a + j < s.l.length := by omega
        have hajl' : (a : Int) + j < s.l.length := by omega
        have e2 : (0 : Int) ≤ a + j := by omega
        have e3 : ((a : Int) + j).toNat = a + j := by omega
        have e1 : IntKind.i64.wrap ((a : Int) + j) = (a : Int) + j := IntWalk.i64_in _ (by omega)
        have HS := Lib.hid (splice_step s.l b a j (by omega) hab)
        obtain ⟨x, hxe⟩ : ∃ x, x = b.getD j 0 := ⟨_, rfl⟩
        rw [← hxe] at hx HS
        clear hcs hlen hxe
        generalize (splice s.l a (b.take j)).getD (a + j) 0 = z at hy
        go_wp2
        go_still_tail 12, (by kernel_rfl)
        change wpList _ _ _ _ _ wr.drew
        clear e1 e2 e3
        go_wp2
        go_roundw
        case rel =>
          refine ⟨j + 1, by omega, by go_num, ?_⟩
          refine ⟨HI.out.blk.other _ _ H.out.ne, ?_, (HI.out.but.putg _ _).drew, by rw [← HI.out.size]; simp [World.setCell]⟩
          rw [← HS.out, ← bc_set]
          exact HI.out.row.put _ _
        case measure => simp [intOf]; omega
      · have hjn : ¬ (j : Int) < b.length := by omega
        have HJ := Lib.hid (show j = n0 by omega)
        clear hn1
        go_wp2
        go_ret
        rw [HW.out.1]
        have hrow := HI.out.row
        rw [HJ.out, HN0.out, ← HW.out.2.1] at hrow
        have hTl : (s.done a b).l.length = s.l.length := by rw [HW.out.2.1, splice_length _ _ _ (by rw [List.length_take]; omega)]
        refine ⟨rfl, ⟨?_, hrow, H.out.ne, HW.out.2.2.2⟩, HI.out.but, HI.out.size⟩
        rw [hTl]
        exact HI.out.blk
theorem rwrite_any (w : World) (d g : Nat) (s : Dk) (y : Int) (h : Rsk w d g s y) (ho : s.ok) (a : Int) (b : List UInt8) (A : Option Addr) (c : Nat) (S : Nat → Prop) (hR : Rd w S A b) (hSd : ¬ S d) (hSg : ¬ S g) (hbc : b.length ≤ c) (hb : b.length ≤ 2000000) (ha : -9223372036854775808 ≤ a) (ha' : a ≤ 9223372036854775807) :
    Calls Try.prog 13 #[.pointer (some ⟨d, 0, none⟩), .int .i64 a, .slice A b.length c] w fun e w' => e = .returned (.int .i64 (s.write a b).1) ∧
      Rsk w' d g (s.write a b).2 y ∧ But d g w w' ∧ w'.heap.size = w.heap.size := by
  by_cases he : s.err a b.length ≠ 0
  · refine (rwrite_bad w d g s y h a b A c ha ha' hb ho.len he).mono ?_
    rintro e w' ⟨rfl, rfl⟩
    unfold Dk.write
    rw [if_pos he]
    exact ⟨rfl, h, But.refl _ _ _, rfl⟩
  · have he' : s.err a b.length = 0 := by simpa using he
    have hd : s.down = false := by
      cases hx : s.down with
      | false => rfl
      | true => rw [Dk.err_down hx] at he'; cases he'
    have hx : ¬ (a < 0 ∨ (b.length : Int) < 0 ∨ (s.l.length : Int) - a < b.length) := fun hx => by rw [Dk.err_bad hd hx] at he'; cases he'
    obtain ⟨n, rfl⟩ : ∃ n : Nat, a = (n : Int) := ⟨a.toNat, by omega⟩
    exact rwrite_ok w d g s y h n b A c S hR hSd hSg hbc ho hd (by omega)
end Go.Proofs.Ytohdiepoeadenaa.Dsk
