/-
  What Show answers: the pairs' form; nothing that was there before is changed.
-/
import Derived.Test.YtchlikigjijdkaaDoorT9
namespace Go.Proofs.YtchlikigjijdkaaDoor.Txt
open Go.RowKit
set_option maxRecDepth 100000
theorem kept_cell {B b : Nat} {w w' : World} {x y : Value} (h : Kept B b (w.alloc (.cells #[x, y] 38)) w') (i : Nat) (u : Value) (hu : #[x, y][i]? = some u) (hne : w.heap.size ≠ b) : w'.cell? ⟨w.heap.size, i, none⟩ = some u := by
  have h1 := h.others w.heap.size _ (heap_alloc_new w (.cells #[x, y] 38)) (fun e => hne (by injection e)) (fun c fz e => by injection e with _ e _; exact absurd e (by decide))
  rw [cell_of_row w' w.heap.size i _ _ _ h1]
  exact hu
theorem showp_app (p : List UInt8) (q : Pr) : p ++ esc q.1 ++ [61] ++ esc q.2 = p ++ showp q := by unfold showp; simp [List.append_assoc]
theorem bldF_lt {w : World} {B b : Nat} {l : List UInt8} (h : BldF w B b l) : b < w.heap.size := by
  rcases h with ⟨_, v, hv, _⟩ | ⟨_, v, hv, _⟩
  · exact (show Blk w b _ _ from hv).lt
  · exact (show Blk w b _ _ from hv).lt
theorem take_pair (l : List Pr) (k : Nat) (q : Pr) (h : l[k]? = some q) : l.take (k + 1) = l.take k ++ [q] := by
  rw [List.take_add_one, h]
  rfl
set_option maxHeartbeats 2000000 in
theorem show_any (l : List Pr) (A : Option Addr) (c : Nat) (w : World) (hR : Rd w w.heap.size A (cells2 l)) (hl : l.length ≤ 1000) (hM : ∀ q ∈ l, q.1.length ≤ 2000 ∧ q.2.length ≤ 2000) :
    Calls Tryd.prog 20 #[.slice A l.length c] w fun e w' => e = .returned (.string (mk (shown l))) ∧ Below w.heap.size w w' := by
  have HR := Lib.hid hR
  have HM := Lib.hid hM
  clear hR hM
  have hms := mk_size
  have hmt := mk_toList
  go_enter Tryd.func20, Tryd.ntmps20
  go_wp2
  go_loopw [8] (fun v wr => ∃ k : Nat, k ≤ l.length ∧ v = .int .i64 k ∧ BldF wr w.heap.size w.heap.size (shown (l.take k)) ∧ Below w.heap.size w wr) (fun v _ => l.length - (intOf v).toNat)
  case atStart => exact ⟨0, by omega, rfl, bldF_of (bld_new w), (Below.refl _ _).alloc (Nat.le_refl _) _⟩
  case round =>
    obtain ⟨k, hk, rfl, hI, hb⟩ := hrel
    have HI := Lib.hid hI
    have HB := Lib.hid hb
    clear hI hb
    by_cases hlt : k < l.length
    · obtain ⟨ad, rfl, hadb, hcs⟩ := HR.out.below HB.out (by rw [cells2_length]; omega)
      obtain ⟨q, hq⟩ : ∃ q, l[k]? = some q := ⟨l[k], List.getElem?_eq_getElem hlt⟩
      obtain ⟨e0, e1⟩ := cells2_get l k q hq
      have hc0 := hcs _ _ e0
      have hc1 : wr.cell? ⟨(ad.add (k * 2)).block, (ad.add (k * 2)).off + 1, none⟩ = some (.string (mk q.2)) := by have := hcs _ _ e1; rw [← add_add] at this; exact this
      have hqm := HM.out q (List.mem_of_getElem? hq)
      have hle1 := esc_len q.1
      have hlt0 : w.heap.size < wr.heap.size := bldF_lt HI.out
      have hne : wr.heap.size ≠ w.heap.size := by omega
      have hplen : (shown (l.take k)).length ≤ 1000 * (6 * 2000 + 2) := Nat.le_trans (shown_len (M := 2000) (l.take k) (fun p hp => HM.out p (List.mem_of_mem_take hp))) (Nat.mul_le_mul_right _ (by rw [List.length_take]; omega))
      have HN : Hid (shown (l.take (k + 1)) = (if l.take k = [] then [] else shown (l.take k) ++ [38]) ++ showp q) := Lib.hid (by rw [take_pair l k q hq]; exact shown_snoc _ _)
      clear hcs e0 e1 hq hadb
      have hsz0 : w.heap.size ≤ (wr.alloc (.cells #[.string (mk q.1), .string (mk q.2)] 38)).heap.size := by simp; omega
      have HB0 : Hid (Below w.heap.size w (wr.alloc (.cells #[.string (mk q.1), .string (mk q.2)] 38))) := Lib.hid (HB.out.alloc HB.out.size _)
      have HI0 : Hid (BldF (wr.alloc (.cells #[.string (mk q.1), .string (mk q.2)] 38)) w.heap.size w.heap.size (shown (l.take k))) := Lib.hid (bldF_below HI.out ((Below.refl _ _).alloc (Nat.le_refl _) _))
      by_cases hk0 : k = 0
      · have hnil : l.take k = [] := by rw [hk0]; rfl
        rw [if_pos hnil] at HN
        have hpl : ([] : List UInt8).length ≤ 0 := Nat.le_refl _
        have HI1 : Hid (BldF (wr.alloc (.cells #[.string (mk q.1), .string (mk q.2)] 38)) w.heap.size w.heap.size []) := Lib.hid (by have := HI0.out; rw [hnil] at this; exact this)
        have HK1 := Lib.hid (Kept.refl w.heap.size w.heap.size (wr.alloc (.cells #[.string (mk q.1), .string (mk q.2)] 38)))
        have hd : decide ((0 : Int) < (k : Int)) = false := decide_eq_false (by omega)
        have hk1 : (k : Int) ≤ 0 := by omega
        clear hnil HI0 hk0
        generalize ([] : List UInt8) = p at *
        have hn1 : (wr.alloc (.cells #[.string (mk q.1), .string (mk q.2)] 38)).cell? ⟨wr.heap.size, 0, none⟩ = some (.string (mk q.1)) := kept_cell HK1.out 0 _ rfl hne
        go_wp2_with fail
        refine (writeEscaped_any w.heap.size w.heap.size q.1 p _ HI1.out (Nat.le_trans hsz0 HK1.out.below.size) (by omega)).mono ?_
        rintro e w2 ⟨rfl, hI2, hk2⟩
        have HI2 := Lib.hid hI2
        have HK2 := Lib.hid (HK1.out.trans hk2)
        clear hI2 hk2 hn1 HI1 HK1
        go_wp2_with fail
        refine (writeK_at w.heap.size w.heap.size (p ++ esc q.1) 61 _ rfl _ HI2.out (by rw [List.length_append]; omega) (Nat.le_trans hsz0 HK2.out.below.size)).mono ?_
        rintro e w3 ⟨rfl, hI3, hk3⟩
        have HI3 := Lib.hid hI3
        have HK3 := Lib.hid (HK2.out.trans hk3)
        clear hI3 hk3 HI2 HK2
        have hn2 : w3.cell? ⟨wr.heap.size, 1, none⟩ = some (.string (mk q.2)) := kept_cell HK3.out 1 _ rfl hne
        go_wp2_with fail
        refine (writeEscaped_any w.heap.size w.heap.size q.2 (p ++ esc q.1 ++ [61]) _ HI3.out (Nat.le_trans hsz0 HK3.out.below.size) (by rw [List.length_append, List.length_append]; simp only [List.length_cons, List.length_nil]; omega)).mono ?_
        rintro e w4 ⟨rfl, hI4, hk4⟩
        have HI4 : Hid (BldF w4 w.heap.size w.heap.size (shown (l.take (k + 1)))) := Lib.hid (by rw [HN.out]; rw [← showp_app]; exact hI4)
        have HB4 : Hid (Below w.heap.size w w4) := Lib.hid (HB0.out.trans (HK3.out.trans hk4).below)
        clear hI4 hk4 hn2 HI3 HK3
        go_wp2
        go_roundw
        case rel => exact ⟨k + 1, by omega, by go_num, HI4.out, HB4.out⟩
        case measure => simp [intOf]; omega
      · have hnil : l.take k ≠ [] := fun e => by have := congrArg List.length e; rw [List.length_take] at this; simp only [List.length_nil] at this; omega
        rw [if_neg hnil] at HN
        generalize shown (l.take k) = p0 at *
        have hk1 : (0 : Int) < (k : Int) := by omega
        clear hnil hk0
        go_wp2_with fail
        refine (writeK_at w.heap.size w.heap.size p0 38 _ rfl _ HI0.out (by omega) hsz0).mono ?_
        rintro e w1 ⟨rfl, hI1, hK1⟩
        have hpl : (p0 ++ [38]).length ≤ 12002001 := by rw [List.length_append]; simp only [List.length_cons, List.length_nil]; omega
        have HI1 := Lib.hid hI1
        have HK1 := Lib.hid hK1
        clear hI1 hK1 HI0
        generalize p0 ++ [38] = p at *
        have hn1 : w1.cell? ⟨wr.heap.size, 0, none⟩ = some (.string (mk q.1)) := kept_cell HK1.out 0 _ rfl hne
        go_wp2_with fail
        refine (writeEscaped_any w.heap.size w.heap.size q.1 p _ HI1.out (Nat.le_trans hsz0 HK1.out.below.size) (by omega)).mono ?_
        rintro e w2 ⟨rfl, hI2, hk2⟩
        have HI2 := Lib.hid hI2
        have HK2 := Lib.hid (HK1.out.trans hk2)
        clear hI2 hk2 hn1 HI1 HK1
        go_wp2_with fail
        refine (writeK_at w.heap.size w.heap.size (p ++ esc q.1) 61 _ rfl _ HI2.out (by rw [List.length_append]; omega) (Nat.le_trans hsz0 HK2.out.below.size)).mono ?_
        rintro e w3 ⟨rfl, hI3, hk3⟩
        have HI3 := Lib.hid hI3
        have HK3 := Lib.hid (HK2.out.trans hk3)
        clear hI3 hk3 HI2 HK2
        have hn2 : w3.cell? ⟨wr.heap.size, 1, none⟩ = some (.string (mk q.2)) := kept_cell HK3.out 1 _ rfl hne
        go_wp2_with fail
        refine (writeEscaped_any w.heap.size w.heap.size q.2 (p ++ esc q.1 ++ [61]) _ HI3.out (Nat.le_trans hsz0 HK3.out.below.size) (by rw [List.length_append, List.length_append]; simp only [List.length_cons, List.length_nil]; omega)).mono ?_
        rintro e w4 ⟨rfl, hI4, hk4⟩
        have HI4 : Hid (BldF w4 w.heap.size w.heap.size (shown (l.take (k + 1)))) := Lib.hid (by rw [HN.out]; rw [← showp_app]; exact hI4)
        have HB4 : Hid (Below w.heap.size w w4) := Lib.hid (HB0.out.trans (HK3.out.trans hk4).below)
        clear hI4 hk4 hn2 HI3 HK3
        go_wp2
        go_roundw
        case rel => exact ⟨k + 1, by omega, by go_num, HI4.out, HB4.out⟩
        case measure => simp [intOf]; omega
    · obtain rfl : k = l.length := by omega
      rw [List.take_length] at HI
      go_wp2_with fail
      refine (takenF_any w.heap.size w.heap.size (shown l) _ HI.out HB.out.size).mono ?_
      rintro e w1 ⟨rfl, _, hb1⟩
      have HB1 : Hid (Below w.heap.size w w1) := Lib.hid (HB.out.trans hb1)
      clear hb1
      go_wp2
      go_ret
      exact ⟨rfl, HB1.out⟩
end Go.Proofs.YtchlikigjijdkaaDoor.Txt
