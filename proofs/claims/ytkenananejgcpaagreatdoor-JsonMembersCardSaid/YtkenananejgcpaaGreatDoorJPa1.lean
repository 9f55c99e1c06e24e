/-
  A parser in memory: next, take, takeAll, skipBlanks.
-/
import Derived.Test.YtkenananejgcpaaGreatDoorJPr8
namespace Go.Proofs.YtkenananejgcpaaGreatDoor.Jsn
open Go.RowKit Txt
/-- A parser at block pp: the text, how far it was read, and how many more may be opened. -/
def Ps (w : World) (pp : Nat) (t : List UInt8) (a r : Nat) : Prop := w.heap[pp]? = some (.cells #[.string (mk t), .int .i64 (a : Nat), .int .i64 (r : Nat)] 94 (0, 0))
/-- Nothing but block pp was changed. -/
abbrev G (pp : Nat) (w w' : World) : Prop := w.grownBy w' (some pp)
theorem G.refl (pp : Nat) (w : World) : G pp w w := ⟨rfl, rfl, rfl, Nat.le_refl _, fun _ _ _ => rfl⟩
theorem G.trans {pp : Nat} {a b c : World} (h : G pp a b) (k : G pp b c) : G pp a c :=
  ⟨k.os.trans h.os, k.tape.trans h.tape, k.output.trans h.output, Nat.le_trans h.size k.size, fun i hi hn => (k.block i (Nat.lt_of_lt_of_le hi h.size) hn).trans (h.block i hi hn)⟩
theorem G.drew (pp : Nat) {w w' : World} (h : G pp w w') : G pp w w'.drew := ⟨h.os, h.tape, h.output, h.size, h.block⟩
theorem Ps.set1 {w : World} {pp : Nat} {t : List UInt8} {a r : Nat} (h : Ps w pp t a r) (b : Nat) : Ps (w.setCell ⟨pp, 1, none⟩ (.int .i64 (b : Nat))) pp t b r := blk_set (show Blk w pp _ _ from h) 1 _
theorem Ps.set2 {w : World} {pp : Nat} {t : List UInt8} {a r : Nat} (h : Ps w pp t a r) (b : Nat) : Ps (w.setCell ⟨pp, 2, none⟩ (.int .i64 (b : Nat))) pp t a b := blk_set (show Blk w pp _ _ from h) 2 _
theorem Ps.cells {w : World} {pp : Nat} {t : List UInt8} {a r : Nat} (h : Ps w pp t a r) : w.cell? ⟨pp, 0, none⟩ = some (.string (mk t)) ∧ w.cell? ⟨pp, 1, none⟩ = some (.int .i64 (a : Nat)) ∧ w.cell? ⟨pp, 2, none⟩ = some (.int .i64 (r : Nat)) ∧ w.frozen? ⟨pp, 1, none⟩ = false ∧ w.frozen? ⟨pp, 2, none⟩ = false :=
  ⟨cell_of_row _ _ 0 _ _ _ h, cell_of_row _ _ 1 _ _ _ h, cell_of_row _ _ 2 _ _ _ h, Lib.frozen_of_heap h 1, Lib.frozen_of_heap h 2⟩
/-- What is read next; 0 at the end. -/
def nb (t : List UInt8) (a : Nat) : UInt8 := t.getD a 0
set_option maxRecDepth 100000
set_option maxHeartbeats 1000000 in
theorem next_any (pp : Nat) (t : List UInt8) (a r : Nat) (w : World) (h : Ps w pp t a r) (ha : a ≤ t.length) :
    Calls Tryz.prog 72 #[.pointer (some ⟨pp, 0, none⟩)] w fun e w' => e = .returned (.int .u8 ((nb t a).toNat : Nat)) ∧ Ps w' pp t a r ∧ G pp w w' := by
  obtain ⟨c0, c1, -, -, -⟩ := h.cells
  have HP := Lib.hid h
  have hms := mk_size
  have hmt := mk_toList
  clear h
  by_cases he : a = t.length
  · subst he
    have hz : nb t t.length = 0 := by unfold nb; simp
    rw [hz]
    go_enter Tryz.func72, Tryz.ntmps72
    go_wp2
    go_region
    go_wp2
    go_ret
    exact ⟨rfl, HP.out, (G.refl pp w).drew⟩
  · have hlt : a < t.length := by omega
    have e1 : ((a : Int) == (t.length : Int)) = false := by rw [beq_eq_false_iff_ne]; omega
    have hix := fun w => run_idx w t .i64 a hlt
    have hu : t.getD a 0 = nb t a := rfl
    rw [hu] at hix
    generalize nb t a = y at *
    clear he hu ha
    go_enter Tryz.func72, Tryz.ntmps72
    go_wp2
    go_region
    go_wp2
    go_region
    go_wp2
    go_ret
    exact ⟨rfl, HP.out, ((G.refl pp w).drew).drew⟩
theorem put1 {w : World} (pp : Nat) (v : Value) : G pp w (w.setCell ⟨pp, 1, none⟩ v) := turned w pp 1 v
theorem put2 {w : World} (pp : Nat) (v : Value) : G pp w (w.setCell ⟨pp, 2, none⟩ v) := turned w pp 2 v
set_option maxHeartbeats 1000000 in
/-- take, of the byte that comes. -/
theorem take_any (pp : Nat) (t : List UInt8) (a r : Nat) (b : UInt8) (w : World) (h : Ps w pp t a r) (ha : a < t.length) (hb : nb t a = b) (hl : t.length ≤ 100000) :
    Calls Tryz.prog 94 #[.pointer (some ⟨pp, 0, none⟩), .int .u8 (b.toNat : Nat)] w fun e w' => e = .returned (.tuple #[]) ∧ Ps w' pp t (a + 1) r ∧ G pp w w' := by
  have HN := Lib.hid (next_any pp t a r w h (by omega))
  rw [hb] at HN
  have w1 : wrap64 ((a : Int) + 1) = (a : Int) + 1 := wrap64i (by omega) (by omega)
  have hne : (((b.toNat : Int)) != ((b.toNat : Int))) = false := by simp
  clear h hb ha hl
  go_enter Tryz.func94, Tryz.ntmps94
  go_wp2_with fail
  refine HN.out.mono ?_
  rintro e w2 ⟨rfl, hp, hg⟩
  obtain ⟨c0, c1, -, f1, -⟩ := hp.cells
  have HP := Lib.hid (hp.set1 (a + 1))
  have HG := Lib.hid hg
  clear hp hg HN
  go_wp2
  go_end0
  exact ⟨rfl, HP.out, HG.out.trans (put1 pp _)⟩
set_option maxHeartbeats 1000000 in
theorem takeAll_any (pp : Nat) (t : List UInt8) (a r : Nat) (m rest : List UInt8) (w : World) (h : Ps w pp t a r) (ha : t.drop a = m ++ rest) (hl : t.length ≤ 100000) (hal : a ≤ t.length) :
    Calls Tryz.prog 73 #[.pointer (some ⟨pp, 0, none⟩), .string (mk m)] w fun e w' => e = .returned (.tuple #[]) ∧ Ps w' pp t (a + m.length) r ∧ G pp w w' := by
  have HP := Lib.hid h
  have hms := mk_size
  have hmt := mk_toList
  have HA := Lib.hid (show t.drop a = m ++ rest ∧ t.length ≤ 100000 ∧ a ≤ t.length from ⟨ha, hl, hal⟩)
  have hmc : m.length ≤ 100000 := by have := congrArg List.length ha; rw [List.length_drop, List.length_append] at this; omega
  clear h ha hl hal
  go_enter Tryz.func73, Tryz.ntmps73
  go_wp2
  go_loopw [7] (fun i wr => ∃ k : Nat, k ≤ m.length ∧ i = .int .i64 k ∧ Ps wr pp t (a + k) r ∧ G pp w wr) (fun i _ => m.length - (intOf i).toNat)
  case atStart => exact ⟨0, Nat.zero_le _, rfl, HP.out, G.refl _ _⟩
  case round =>
    obtain ⟨k, hk, rfl, hp, hg⟩ := hrel
    have HQ := Lib.hid hp
    have HG := Lib.hid hg
    clear hp hg HP
    by_cases hlt : k < m.length
    · have k1 : (k : Int) < (m.length : Int) := by omega
      have hix := fun w => run_idx w m .i64 k hlt
      obtain ⟨y, hy⟩ : ∃ y, m[k]? = some y := ⟨_, List.getElem?_eq_getElem hlt⟩
      have hgd : m.getD k 0 = y := by rw [List.getD_eq_getElem?_getD, hy]; rfl
      rw [hgd] at hix
      have hnb : nb t (a + k) = y := by
        have := congrArg (fun l : List UInt8 => l[k]?) HA.out.1
        simp only [List.getElem?_drop, List.getElem?_append_left hlt, hy] at this
        unfold nb
        rw [List.getD_eq_getElem?_getD, this]; rfl
      have hat : a + k < t.length := by
        have := congrArg List.length HA.out.1
        rw [List.length_drop, List.length_append] at this
        omega
      have HC := Lib.hid (take_any pp t (a + k) r y wr HQ.out hat hnb HA.out.2.1)
      clear hgd hy hnb hat
      go_wp2_with fail
      refine HC.out.mono ?_
      rintro e w2 ⟨rfl, hp2, hg2⟩
      have HP2 := Lib.hid hp2
      have HG2 := Lib.hid (HG.out.trans hg2)
      clear hp2 hg2 HQ HG HC
      go_wp2
      go_roundw
      case rel => exact ⟨k + 1, by omega, by go_num, HP2.out, HG2.out⟩
      case measure => simp [intOf]; omega
    · obtain rfl : k = m.length := by omega
      have k1 : ¬ (m.length : Int) < (m.length : Int) := by omega
      go_wp2
      go_end0
      exact ⟨rfl, HQ.out, HG.out⟩
/-- A blank. -/
def blk1 (b : UInt8) : Prop := b.toNat = 32 ∨ b.toNat = 9 ∨ b.toNat = 10 ∨ b.toNat = 13
/-- Where the blanks at a place end. -/
def Skips (t : List UInt8) (a b : Nat) : Prop := a ≤ b ∧ b ≤ t.length ∧ (∀ i, a ≤ i → i < b → blk1 (nb t i)) ∧ ¬ blk1 (nb t b)
set_option maxHeartbeats 2000000 in
theorem skip_any (pp : Nat) (t : List UInt8) (a b r : Nat) (w : World) (h : Ps w pp t a r) (hs : Skips t a b) (hl : t.length ≤ 100000) :
    Calls Tryz.prog 57 #[.pointer (some ⟨pp, 0, none⟩)] w fun e w' => e = .returned (.tuple #[]) ∧ Ps w' pp t b r ∧ G pp w w' := by
  have HP := Lib.hid h
  have HS := Lib.hid hs
  have HL := Lib.hid hl
  clear h hs hl
  go_enter Tryz.func57, Tryz.ntmps57
  go_wp2
  go_loopg [3] (b - a) (fun k _ wr => k ≤ b - a ∧ Ps wr pp t (b - k) r ∧ G pp w wr)
  case atStart => exact ⟨Nat.le_refl _, by have := HS.out.1; rw [show b - (b - a) = a by omega]; exact HP.out, G.refl _ _⟩
  case round =>
    obtain ⟨hk, hp, hg⟩ := hrel
    have hab := HS.out.1
    have hbl := HS.out.2.1
    have HC := Lib.hid (next_any pp t (b - gk) r wr hp (by omega))
    have HQ := Lib.hid hp
    have HG := Lib.hid hg
    clear hp hg HP
    by_cases hz : gk = 0
    · subst hz
      have hnot := HS.out.2.2.2
      rw [Nat.sub_zero] at HC HQ
      unfold blk1 at hnot
      generalize nb t b = y at *
      have n1 : ((y.toNat : Int) == 32) = false := by rw [beq_eq_false_iff_ne]; omega
      have n2 : ((y.toNat : Int) == 9) = false := by rw [beq_eq_false_iff_ne]; omega
      have n3 : ((y.toNat : Int) == 10) = false := by rw [beq_eq_false_iff_ne]; omega
      have n4 : ((y.toNat : Int) == 13) = false := by rw [beq_eq_false_iff_ne]; omega
      clear hnot
      go_wp2_with fail
      refine HC.out.mono ?_
      rintro e w2 ⟨rfl, hp2, hg2⟩
      have HP2 := Lib.hid hp2
      have HG2 := Lib.hid (HG.out.trans hg2)
      clear hp2 hg2 HC HQ HG
      go_wp2
      first | go_end0 | refine bodyPost_ret (results_none rfl _ _ _) rfl ?_
      exact ⟨rfl, HP2.out, HG2.out⟩
    · have hyes := HS.out.2.2.1 (b - gk) (by omega) (by omega)
      obtain ⟨c, hc⟩ : ∃ c, c = b - gk := ⟨_, rfl⟩
      have hc1 : b - (gk - 1) = c + 1 := by omega
      have hc2 : (0 : Int) ≤ (c : Int) + 1 ∧ (c : Int) + 1 ≤ 10000000 := by have := HL.out; omega
      rw [← hc] at hyes HC HQ
      have HK := Lib.hid hc1
      have hgk : gk - 1 < gk := by omega
      have hgk2 : gk - 1 ≤ b - a := by omega
      clear hc hc1 hk hz hab hbl
      unfold blk1 at hyes
      generalize nb t c = y at *
      have HY := Lib.hid hyes
      have w1 := wrap64i hc2.1 hc2.2
      clear hyes hc2
      go_wp2_with fail
      refine HC.out.mono ?_
      rintro e w2 ⟨rfl, hp2, hg2⟩
      obtain ⟨c0, c1, -, f1, -⟩ := hp2.cells
      have HP2 : Hid (Ps (w2.setCell ⟨pp, 1, none⟩ (.int .i64 ((c : Int) + 1))) pp t (b - (gk - 1)) r) := Lib.hid (by rw [HK.out]; exact hp2.set1 (c + 1))
      have HG2 := Lib.hid ((HG.out.trans hg2).trans (put1 pp (.int .i64 ((c : Int) + 1))))
      clear hp2 hg2 HC HQ HG
      have hyy := HY.out
      rcases hyy with hyy | hyy | hyy | hyy
      all_goals
        rw [hyy]
        clear hyy HY
        go_wp2
        go_roundg (gk - 1)
        case measure => exact hgk
        case rel => exact ⟨hgk2, HP2.out, HG2.out⟩
end Go.Proofs.YtkenananejgcpaaGreatDoor.Jsn
